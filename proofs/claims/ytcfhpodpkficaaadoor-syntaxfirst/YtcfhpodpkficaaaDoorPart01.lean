/- Words of a text, in plain mathematics: how long the first word is, the words of a text, and that words printed with a blank between are the same words. The library contracts that this program uses, at its own numbers. Laid by program; no walk. The walks of the program's small functions: kinds of bytes, run, lineSize, numberSize, signSize. The walks of signSize and numberSize. The walks of first and skip. -/
import Derived.WalkKit
import Derived.Shelf.Strings.Builder1
import Derived.Shelf.Strings.Builder2
import Derived.Shelf.Strings.OnBuilder
import Derived.Shelf.Small.Strs
import Derived.Shelf.Strconv.Itoa0
import Derived.Shelf.Strconv.Itoa1
import Derived.Shelf.LaysM
import Derived.Shelf.Strconv.Itoa2
import Derived.Shelf.Strconv.Itoa3
import Derived.Shelf.Strconv.Itoa4
import Derived.Shelf.Strconv.ParseIntEmpty
import Derived.Shelf.Strconv.Clone
import Derived.Shelf.Strconv.SyntaxError
import Derived.Shelf.LaysC
import Derived.Shelf.Strconv.ToError
import Derived.Shelf.Strconv.Lower
import Derived.Shelf.Strconv.ParseUint10
import Derived.Shelf.Strconv.ParseUint10Empty
import Derived.Shelf.Strconv.ParseUint10Any
import Derived.Shelf.Strconv.ParseInt10
import Derived.Shelf.Strconv.RangeError
import Derived.Shelf.Strconv.ToErrorRange
import Derived.Shelf.Strconv.ParseUintEmpty
import Derived.Shelf.Strconv.ParseUint10b64
import Derived.Shelf.Strconv.ParseUint10b32
import Derived.Shelf.Strconv.ParseUint10b16
import Derived.Shelf.Strconv.ParseUint10b8
import Derived.Shelf.Strconv.ParseUint10At
import Derived.Shelf.Strconv.ParseInt10At64
import Derived.Shelf.Strconv.ParseInt10At32
import Derived.Shelf.Strconv.ParseInt10At16
import Derived.Shelf.Strconv.ParseInt10At8
import Derived.Shelf.Strconv.ParseInt10All
import Derived.Shelf.Strconv.ParseIntPublic10
import Derived.Shelf.Strings.Search1
import Derived.Shelf.Strings.Prefix
import Derived.Test.YtcfhpodpkficaaaDoorRows
import Derived.WalkSpells
import Derived.WalkLawsBesides
import Derived.BigQuiet
import Derived.Shelf.Abstract
import Derived.LoopN
namespace Go.Proofs.YtcfhpodpkficaaaDoor.Lx

def smallN (n : Nat) : Bool := decide (97 ≤ n) && decide (n ≤ 122)
def greatN (n : Nat) : Bool := decide (65 ≤ n) && decide (n ≤ 90)
def digitN (n : Nat) : Bool := decide (48 ≤ n) && decide (n ≤ 57)
def nameN (n : Nat) : Bool := smallN n || digitN n || decide (n = 95)
def varN (n : Nat) : Bool := nameN n || greatN n
def blankN (n : Nat) : Bool := decide (n = 32) || decide (n = 9) || decide (n = 10) || decide (n = 13)

/-- How many bytes at the beginning are all good. -/
def runP (p : Nat → Bool) : List UInt8 → Nat
  | [] => 0
  | c :: t => if p c.toNat = true then runP p t + 1 else 0

theorem runP_le (p : Nat → Bool) (L : List UInt8) : runP p L ≤ L.length := by
  induction L with
  | nil => simp [runP]
  | cons c t ih => simp only [runP]; split <;> simp; omega

/-- A run ends where a bad byte stands, or at the end. -/
theorem runP_eq (p : Nat → Bool) (L : List UInt8) (k : Nat) (hk : k ≤ L.length) (h : ∀ j, j < k → p ((L.getD j 0).toNat) = true) (he : k = L.length ∨ p ((L.getD k 0).toNat) = false) : runP p L = k := by
  induction L generalizing k with
  | nil => simp at hk; simp [runP, hk]
  | cons c t ih =>
    simp only [runP]
    cases k with
    | zero =>
      rcases he with he | he
      · simp at he
      · simp at he; simp [he]
    | succ k =>
      have h0 := h 0 (by omega)
      simp at h0
      rw [if_pos h0, ih k (by simpa using hk) (fun j hj => by simpa using h (j + 1) (by omega)) (by
        rcases he with he | he
        · left; simpa using he
        · right; simpa using he)]

/-- A run over a front and one bad byte behind it. -/
theorem runP_take (p : Nat → Bool) (L R : List UInt8) (d : UInt8) (hd : p d.toNat = false) : runP p (L.take (runP p L) ++ d :: R) = runP p L := by
  induction L with
  | nil => simp [runP, hd]
  | cons c t ih =>
    by_cases hc : p c.toNat = true
    · have e : runP p (c :: t) = runP p t + 1 := by simp [runP, hc]
      rw [e]
      simp only [List.take_succ_cons, List.cons_append]
      rw [runP, if_pos hc, ih]
    · have e : runP p (c :: t) = 0 := by simp [runP, hc]
      rw [e]
      simp [runP, hd]

def signsL : List (List UInt8) := [[40], [41], [44], [46], [58, 45], [33, 61], [33], [61], [60, 61], [60]]
def signIn : List (List UInt8) → List UInt8 → Nat
  | [], _ => 0
  | x :: r, L => if x.isPrefixOf L = true then x.length else signIn r L
def signL (L : List UInt8) : Nat := signIn signsL L

def numL : List UInt8 → Nat
  | [] => 0
  | c :: t => if c.toNat = 48 then 1 else if c.toNat = 45 then (match t with
      | [] => 0
      | d :: r => if d.toNat = 48 then 0 else if digitN d.toNat = true then runP digitN r + 2 else 0)
    else runP digitN (c :: t)

def kindN (n : Nat) : Nat := if smallN n = true then 1 else if greatN n = true then 2 else if digitN n = true ∨ n = 45 then 3 else 4
def kindL (L : List UInt8) : Nat := kindN (L.getD 0 0).toNat
/-- How long the first word is; 0: there is none. -/
def sizeL (L : List UInt8) : Nat :=
  if kindL L = 1 then runP nameN L else if kindL L = 2 then runP varN L else if kindL L = 3 then numL L else signL L

theorem signIn_le (S : List (List UInt8)) (L : List UInt8) : signIn S L ≤ L.length := by
  induction S with
  | nil => simp [signIn]
  | cons x r ih =>
    simp only [signIn]
    split
    · rename_i h
      exact (List.isPrefixOf_iff_prefix.1 h).length_le
    · exact ih

theorem numL_le (L : List UInt8) : numL L ≤ L.length := by
  unfold numL
  split
  · simp
  · split
    · simp
    · split
      · split
        · simp
        · split
          · simp
          · split
            · rename_i r _ _
              have := runP_le digitN r
              simp; omega
            · simp
      · exact runP_le _ _

theorem sizeL_le (L : List UInt8) : sizeL L ≤ L.length := by
  unfold sizeL
  split
  · exact runP_le _ _
  · split
    · exact runP_le _ _
    · split
      · exact numL_le _
      · exact signIn_le _ _

theorem signL_two (L : List UInt8) : signL L ≤ 2 := by
  simp only [signL, signsL, signIn]
  repeat' split
  all_goals simp

/-- How many bytes stand ahead of the line's end. -/
def lineL (L : List UInt8) : Nat := runP (fun n => !decide (n = 10)) L

abbrev Wd := Nat × List UInt8 × Nat

/-- The words of a text of which the first byte is the a-th; none: it is refused. -/
def scanL (L : List UInt8) (a : Nat) : Option (List Wd) :=
  match L with
  | [] => some []
  | c :: t =>
    if blankN c.toNat = true then scanL t (a + 1)
    else if c.toNat = 37 then scanL (t.drop (lineL t)) (a + 1 + lineL t)
    else if sizeL (c :: t) = 0 ∨ 16 < sizeL (c :: t) then none
    else (scanL (t.drop (sizeL (c :: t) - 1)) (a + sizeL (c :: t))).map (fun r => (kindL (c :: t), (c :: t).take (sizeL (c :: t)), a) :: r)
  termination_by L.length
  decreasing_by all_goals (simp <;> omega)

theorem scanL_nil (a : Nat) : scanL [] a = some [] := by rw [scanL]
theorem scanL_cons (c : UInt8) (t : List UInt8) (a : Nat) : scanL (c :: t) a = if blankN c.toNat = true then scanL t (a + 1)
    else if c.toNat = 37 then scanL (t.drop (lineL t)) (a + 1 + lineL t)
    else if sizeL (c :: t) = 0 ∨ 16 < sizeL (c :: t) then none
    else (scanL (t.drop (sizeL (c :: t) - 1)) (a + sizeL (c :: t))).map (fun r => (kindL (c :: t), (c :: t).take (sizeL (c :: t)), a) :: r) := by
  rw [scanL]

/-- The same, from a place of the text on. -/
def scanAt (S : List UInt8) (a : Nat) : Option (List Wd) := scanL (S.drop a) a

theorem drop_cons (S : List UInt8) (a : Nat) (h : a < S.length) : S.drop a = S.getD a 0 :: S.drop (a + 1) := by
  rw [List.drop_eq_getElem_cons h]
  simp [List.getD, List.getElem?_eq_getElem h]

theorem scanAt_end (S : List UInt8) (a : Nat) (h : S.length ≤ a) : scanAt S a = some [] := by
  rw [scanAt, List.drop_eq_nil_of_le h, scanL_nil]

theorem scanAt_blank (S : List UInt8) (a : Nat) (h : a < S.length) (hb : blankN (S.getD a 0).toNat = true) : scanAt S a = scanAt S (a + 1) := by
  rw [scanAt, drop_cons S a h, scanL_cons, if_pos hb, scanAt]

theorem line_cons (c : UInt8) (t : List UInt8) (h : c.toNat = 37) : lineL (c :: t) = lineL t + 1 := by
  simp [lineL, runP, h]

theorem scanAt_note (S : List UInt8) (a : Nat) (h : a < S.length) (hb : (S.getD a 0).toNat = 37) : scanAt S a = scanAt S (a + lineL (S.drop a)) ∧ 1 ≤ lineL (S.drop a) ∧ a + lineL (S.drop a) ≤ S.length := by
  have e := drop_cons S a h
  have hl : lineL (S.drop a) = lineL (S.drop (a + 1)) + 1 := by rw [e, line_cons _ _ hb]
  have hle : lineL (S.drop a) ≤ (S.drop a).length := runP_le _ _
  rw [List.length_drop] at hle
  refine ⟨?_, by omega, by omega⟩
  rw [scanAt, e, scanL_cons, if_neg (by rw [hb]; decide), if_pos hb, scanAt, line_cons _ _ hb, List.drop_drop]
  have e1 : a + 1 + lineL (S.drop (a + 1)) = a + (lineL (S.drop (a + 1)) + 1) := by omega
  rw [e1]

theorem scanAt_bad (S : List UInt8) (a : Nat) (h : a < S.length) (hb : blankN (S.getD a 0).toNat = false) (hn : (S.getD a 0).toNat ≠ 37) (hs : sizeL (S.drop a) = 0 ∨ 16 < sizeL (S.drop a)) : scanAt S a = none := by
  have e := drop_cons S a h
  rw [scanAt, e, scanL_cons, if_neg (by rw [hb]; decide), if_neg hn, ← e, if_pos hs]

theorem scanAt_word (S : List UInt8) (a : Nat) (h : a < S.length) (hb : blankN (S.getD a 0).toNat = false) (hn : (S.getD a 0).toNat ≠ 37) (h0 : sizeL (S.drop a) ≠ 0) (hs : sizeL (S.drop a) ≤ 16) :
    scanAt S a = (scanAt S (a + sizeL (S.drop a))).map (fun r => (kindL (S.drop a), (S.drop a).take (sizeL (S.drop a)), a) :: r) := by
  have e := drop_cons S a h
  have e2 : (S.drop (a + 1)).drop (sizeL (S.drop a) - 1) = S.drop (a + sizeL (S.drop a)) := by
    rw [List.drop_drop]
    congr 1
    omega
  rw [scanAt, e, scanL_cons, if_neg (by rw [hb]; decide), if_neg hn, ← e, if_neg (by omega), e2, scanAt]

/-- Words as they are printed, a blank behind each. -/
def joinW : List Wd → List UInt8
  | [] => []
  | (_, x, _) :: r => x ++ 32 :: joinW r
/-- The same words, at the places at which they then stand. -/
def reAt : Nat → List Wd → List Wd
  | _, [] => []
  | b, (k, x, _) :: r => (k, x, b) :: reAt (b + x.length + 1) r

theorem isPre1 (x c : UInt8) (t : List UInt8) : List.isPrefixOf [x] (c :: t) = (x == c) := by simp [List.isPrefixOf]
theorem isPre2 (x y c d : UInt8) (t : List UInt8) : List.isPrefixOf [x, y] (c :: d :: t) = (x == c && y == d) := by simp [List.isPrefixOf]
theorem isPre2' (x y c : UInt8) : List.isPrefixOf [x, y] [c] = false := by simp [List.isPrefixOf]

theorem sign_apart (L R : List UInt8) (h : signL L ≠ 0) : signL (L.take (signL L) ++ 32 :: R) = signL L := by
  match L with
  | [] => exact absurd (by rfl) h
  | [c] =>
    simp only [signL, signsL, signIn, isPre1, isPre2', List.length] at h ⊢
    by_cases e1 : c = 40 <;> by_cases e2 : c = 41 <;> by_cases e3 : c = 44 <;> by_cases e4 : c = 46 <;> by_cases e5 : c = 33 <;> by_cases e6 : c = 61 <;> by_cases e7 : c = 60
    all_goals (simp_all [isPre1, isPre2, Ne.symm])
    all_goals (revert h; repeat' split) <;> simp_all
  | c :: d :: t =>
    simp only [signL, signsL, signIn, isPre1, isPre2, List.length] at h ⊢
    by_cases e1 : 40 = c
    · subst e1; rfl
    by_cases e2 : 41 = c
    · subst e2; rfl
    by_cases e3 : 44 = c
    · subst e3; rfl
    by_cases e4 : 46 = c
    · subst e4; rfl
    by_cases e6 : 61 = c
    · subst e6; rfl
    by_cases e5 : 33 = c
    · subst e5
      by_cases f : 61 = d
      · subst f; rfl
      · simp [f, isPre1, isPre2]
    by_cases e7 : 60 = c
    · subst e7
      by_cases f : 61 = d
      · subst f; rfl
      · simp [f, isPre1, isPre2]
    by_cases e8 : 58 = c
    · subst e8
      by_cases f : 45 = d
      · subst f; rfl
      · simp [f] at h
    simp [e1, e2, e3, e4, e5, e6, e7, e8] at h

theorem num_apart (L R : List UInt8) (h : numL L ≠ 0) : numL (L.take (numL L) ++ 32 :: R) = numL L := by
  match L with
  | [] => exact absurd (by rfl) h
  | c :: t =>
    by_cases h1 : c.toNat = 48
    · have e : numL (c :: t) = 1 := by simp [numL, h1]
      rw [e]
      simp [numL, h1]
    · by_cases h2 : c.toNat = 45
      · match t with
        | [] => simp [numL, h2] at h
        | d :: r =>
          by_cases h3 : d.toNat = 48
          · simp [numL, h2, h3] at h
          · by_cases h4 : digitN d.toNat = true
            · have e : numL (c :: d :: r) = runP digitN r + 2 := by simp [numL, h2, h3, h4]
              rw [e]
              simp only [List.take_succ_cons, List.cons_append]
              simp only [numL, if_neg h1, if_pos h2, if_neg h3, if_pos h4]
              rw [runP_take _ _ _ _ (by decide)]
            · simp [numL, h2, h3, h4] at h
      · have e : numL (c :: t) = runP digitN (c :: t) := by simp only [numL, if_neg h1, if_neg h2]
        by_cases h4 : digitN c.toNat = true
        · have e2 : runP digitN (c :: t) = runP digitN t + 1 := by simp [runP, h4]
          rw [e, e2]
          simp only [List.take_succ_cons, List.cons_append]
          simp only [numL, if_neg h1, if_neg h2]
          rw [runP, if_pos h4, runP_take _ _ _ _ (by decide)]
        · rw [e] at h
          simp [runP, h4] at h

theorem kind_apart (L R : List UInt8) (n : Nat) (hn : n ≠ 0) (hle : n ≤ L.length) : kindL (L.take n ++ 32 :: R) = kindL L := by
  match L, n with
  | [], n => simp at hle; omega
  | c :: t, n + 1 => simp [kindL]
  | c :: t, 0 => exact absurd rfl hn

theorem word_apart (L R : List UInt8) (h : sizeL L ≠ 0) : sizeL (L.take (sizeL L) ++ 32 :: R) = sizeL L ∧ kindL (L.take (sizeL L) ++ 32 :: R) = kindL L := by
  have hk := kind_apart L R (sizeL L) h (sizeL_le L)
  refine ⟨?_, hk⟩
  rw [sizeL, hk]
  by_cases h1 : kindL L = 1
  · have e : sizeL L = runP nameN L := by simp [sizeL, h1]
    rw [if_pos h1, e]
    exact runP_take _ _ _ _ (by decide)
  · by_cases h2 : kindL L = 2
    · have e : sizeL L = runP varN L := by simp [sizeL, h2]
      rw [if_neg h1, if_pos h2, e]
      exact runP_take _ _ _ _ (by decide)
    · by_cases h3 : kindL L = 3
      · have e : sizeL L = numL L := by simp [sizeL, h3]
        rw [if_neg h1, if_neg h2, if_pos h3, e]
        exact num_apart _ _ (by rwa [← e])
      · have e : sizeL L = signL L := by simp [sizeL, h1, h2, h3]
        rw [if_neg h1, if_neg h2, if_neg h3, e]
        exact sign_apart _ _ (by rwa [← e])

theorem scan_apart (n : Nat) : ∀ (L : List UInt8) (a : Nat) (m : List Wd), L.length ≤ n → scanL L a = some m → (∀ b, scanL (joinW m) b = some (reAt b m)) ∧ (joinW m).length ≤ 2 * L.length ∧ m.length ≤ L.length := by
  induction n with
  | zero =>
    intro L a m hl h
    obtain rfl : L = [] := by cases L; rfl; simp at hl
    rw [scanL_nil] at h
    obtain rfl := Option.some.inj h
    exact ⟨fun b => by simp [joinW, reAt, scanL_nil], by simp [joinW], by simp⟩
  | succ n ih =>
    intro L a m hl h
    match L with
    | [] =>
      rw [scanL_nil] at h
      obtain rfl := Option.some.inj h
      exact ⟨fun b => by simp [joinW, reAt, scanL_nil], by simp [joinW], by simp⟩
    | c :: t =>
      simp only [List.length_cons] at hl
      rw [scanL_cons] at h
      by_cases hb : blankN c.toNat = true
      · rw [if_pos hb] at h
        obtain ⟨g1, g2, g3⟩ := ih t _ m (by omega) h
        exact ⟨g1, by simp only [List.length_cons]; omega, by simp only [List.length_cons]; omega⟩
      · rw [if_neg hb] at h
        by_cases hn : c.toNat = 37
        · rw [if_pos hn] at h
          obtain ⟨g1, g2, g3⟩ := ih _ _ m (by rw [List.length_drop]; omega) h
          rw [List.length_drop] at g2 g3
          exact ⟨g1, by simp only [List.length_cons]; omega, by simp only [List.length_cons]; omega⟩
        · rw [if_neg hn] at h
          by_cases hs : sizeL (c :: t) = 0 ∨ 16 < sizeL (c :: t)
          · rw [if_pos hs] at h
            cases h
          · rw [if_neg hs] at h
            have hle := sizeL_le (c :: t)
            simp only [List.length_cons] at hle
            cases hr : scanL (t.drop (sizeL (c :: t) - 1)) (a + sizeL (c :: t)) with
            | none => rw [hr] at h; cases h
            | some r =>
              rw [hr] at h
              obtain rfl := Option.some.inj h
              obtain ⟨g1, g2, g3⟩ := ih _ _ r (by rw [List.length_drop]; omega) hr
              rw [List.length_drop] at g2 g3
              have hlt : ((c :: t).take (sizeL (c :: t))).length = sizeL (c :: t) := by rw [List.length_take]; simp only [List.length_cons]; omega
              refine ⟨fun b => ?_, ?_, ?_⟩
              · obtain ⟨w1, w2⟩ := word_apart (c :: t) (joinW r) (by omega)
                simp only [joinW, reAt]
                generalize hN : sizeL (c :: t) = N at *
                obtain ⟨N', rfl⟩ : ∃ N', N = N' + 1 := ⟨N - 1, by omega⟩
                simp only [List.take_succ_cons, List.cons_append] at *
                rw [scanL_cons, if_neg hb, if_neg hn, if_neg (by rw [w1]; exact hs), w1, w2]
                have hlt' : (t.take N').length = N' := by simpa using hlt
                have e1 : (t.take N' ++ 32 :: joinW r).drop (N' + 1 - 1) = 32 :: joinW r := by
                  rw [Nat.add_sub_cancel]; exact List.drop_left' hlt'
                have e2 : (c :: (t.take N' ++ 32 :: joinW r)).take (N' + 1) = c :: t.take N' := by
                  rw [List.take_succ_cons, List.take_left' hlt']
                rw [e1, e2, scanL_cons, if_pos (by decide), g1]
                simp only [Option.map_some, List.length_cons, hlt', Nat.add_assoc]
              · simp only [joinW, List.length_append, hlt, List.length_cons]
                omega
              · simp only [List.length_cons]
                omega

theorem scan_blanks (n a : Nat) : scanL (List.replicate n 32) a = some [] := by
  induction n generalizing a with
  | zero => exact scanL_nil a
  | succ n ih => rw [List.replicate_succ, scanL_cons, if_pos (by decide), ih]

theorem runP_all (p : Nat → Bool) (c : UInt8) (hc : p c.toNat = true) (k : Nat) : runP p (List.replicate k c) = k := by
  induction k with
  | zero => rfl
  | succ k ih => rw [List.replicate_succ, runP, if_pos hc, ih]

/-- A text of one letter, again and again. -/
theorem scan_same (c : UInt8) (hc : c = 97 ∨ c = 65 ∨ c = 55) (k : Nat) (hk : 1 ≤ k) : scanL (List.replicate k c) 0 = if k ≤ 16 then some [(kindN c.toNat, List.replicate k c, 0)] else none := by
  obtain ⟨k, rfl⟩ : ∃ j, k = j + 1 := ⟨k - 1, by omega⟩
  have hs : sizeL (List.replicate (k + 1) c) = k + 1 ∧ kindL (List.replicate (k + 1) c) = kindN c.toNat := by
    have hkk : kindL (List.replicate (k + 1) c) = kindN c.toNat := by simp [kindL, List.replicate_succ]
    refine ⟨?_, hkk⟩
    rcases hc with rfl | rfl | rfl
    · have : kindL (List.replicate (k + 1) 97) = 1 := hkk
      rw [sizeL, if_pos this]; exact runP_all _ _ (by decide) _
    · have : kindL (List.replicate (k + 1) 65) = 2 := hkk
      rw [sizeL, if_neg (by omega), if_pos this]; exact runP_all _ _ (by decide) _
    · have : kindL (List.replicate (k + 1) 55) = 3 := hkk
      rw [sizeL, if_neg (by omega), if_neg (by omega), if_pos this]
      have := runP_all digitN 55 (by decide) (k + 1)
      rw [List.replicate_succ] at this ⊢
      simp only [numL]
      rw [if_neg (by decide), if_neg (by decide)]
      exact this
  rw [List.replicate_succ] at hs ⊢
  rw [scanL_cons, if_neg (by rcases hc with rfl | rfl | rfl <;> decide), if_neg (by rcases hc with rfl | rfl | rfl <;> decide), hs.1, hs.2]
  by_cases h : k + 1 ≤ 16
  · rw [if_neg (by omega), if_pos h, Nat.add_sub_cancel, List.drop_eq_nil_of_le (by simp), scanL_nil]
    simp
  · rw [if_pos (by omega), if_neg h]

end Go.Proofs.YtcfhpodpkficaaaDoor.Lx
namespace Go.Proofs.YtcfhpodpkficaaaDoor
open Go.Shelf
def Tryd.lays156_ren : Go.Shelf.Ren := ⟨fun | 156 => 15 | 165 => 28 | 166 => 29 | 169 => 30 | 240 => 39 | 241 => 40 | 276 => 52 | 277 => 53 | n => n, fun | 31 => 51 | 9 => 9 | 3 => 3 | 4 => 4 | 0 => 0 | 20 => 20 | 72 => 73 | 76 => 77 | 70 => 70 | 37 => 71 | 75 => 76 | 127 => 89 | 164 => 99 | 5 => 5 | 80 => 79 | n => n, fun | n => n⟩
theorem Tryd.lays156 : Go.Proofs.Lays.n156 Tryd.prog Tryd.lays156_ren := {
  mixed := by kernel_rfl
  f156 := Tryd.func15.trans (congrArg some (by kernel_rfl))
  f165 := Tryd.func28.trans (congrArg some (by kernel_rfl))
  f166 := Tryd.func29.trans (congrArg some (by kernel_rfl))
  f169 := Tryd.func30.trans (congrArg some (by kernel_rfl))
  f240 := Tryd.func39.trans (congrArg some (by kernel_rfl))
  f241 := Tryd.func40.trans (congrArg some (by kernel_rfl))
  f276 := Tryd.func52.trans (congrArg some (by kernel_rfl))
  f277 := Tryd.func53.trans (congrArg some (by kernel_rfl))
  t0 := Tryd.underlying0
  a0 := Tryd.isAgg0
  z0 := Tryd.sizeOf0
  v0 := Tryd.zeroValue0
  t3 := Tryd.underlying3
  a3 := Tryd.isAgg3
  z3 := Tryd.sizeOf3
  v3 := Tryd.zeroValue3
  t4 := Tryd.underlying4
  a4 := Tryd.isAgg4
  z4 := Tryd.sizeOf4
  v4 := Tryd.zeroValue4
  t9 := Tryd.underlying9
  a9 := Tryd.isAgg9
  z9 := Tryd.sizeOf9
  v9 := Tryd.zeroValue9
  t20 := Tryd.underlying20
  a20 := Tryd.isAgg20
  z20 := Tryd.sizeOf20
  v20 := Tryd.zeroValue20
  t31 := Tryd.underlying51
  a31 := Tryd.isAgg51
  z31 := Tryd.sizeOf51
  v31 := Tryd.zeroValue51
  t37 := Tryd.underlying71
  a37 := Tryd.isAgg71
  z37 := Tryd.sizeOf71
  v37 := Tryd.zeroValue71
  t70 := Tryd.underlying70
  a70 := Tryd.isAgg70
  z70 := Tryd.sizeOf70
  v70 := Tryd.zeroValue70
  t72 := Tryd.underlying73
  a72 := Tryd.isAgg73
  z72 := Tryd.sizeOf73
  v72 := Tryd.zeroValue73
  t75 := Tryd.underlying76
  a75 := Tryd.isAgg76
  z75 := Tryd.sizeOf76
  v75 := Tryd.zeroValue76
  t76 := Tryd.underlying77
  a76 := Tryd.isAgg77
  z76 := Tryd.sizeOf77
  v76 := Tryd.zeroValue77
  t127 := Tryd.underlying89
  a127 := Tryd.isAgg89
  z127 := Tryd.sizeOf89
  v127 := Tryd.zeroValue89
  t164 := Tryd.underlying99
  a164 := Tryd.isAgg99
  z164 := Tryd.sizeOf99
  v164 := Tryd.zeroValue99 }
theorem Tryd.Builder_Extra_156 : Builder.Extra Tryd.prog Tryd.lays156_ren := {
  sizeBuilder := by kernel_rfl
  liesBuilder := by kernel_rfl
  t5 := Tryd.underlying5
  a5 := Tryd.isAgg5
  z5 := Tryd.sizeOf5
  v5 := Tryd.zeroValue5
  infoByte := by kernel_rfl
  cellsByte := by kernel_rfl
  sizeByte := by kernel_rfl
  neB5 := by decide }
open Go.RowKit in
theorem Tryd.strings_Join_none (a : Option Addr) (c : Nat) (sep : ByteArray) (w : World) :
    Calls Tryd.prog 15 #[.slice a 0 c, .string sep] w fun e w' => e = .returned (.string ⟨#[]⟩) ∧ w' = w := Any.strings_Join_none Tryd.lays156 Tryd.Builder_Extra_156 a c sep w
open Go.RowKit in
theorem Tryd.strings_Join (bk o c : Nat) (xs : List ByteArray) (sep : ByteArray) (w : World) (hcells : ∀ (j : Nat) x, xs[j]? = some x → w.cell? ⟨bk, o + j, none⟩ = some (.string x)) (hbk : bk < w.heap.size) (hN : xs.length ≤ 140737488355328) (hcap : xs.length ≤ c) (hlen : (Lib.join (xs.map (·.data.toList)) sep.data.toList).length ≤ 140737488355328) :
    Calls Tryd.prog 15 #[.slice (some ⟨bk, o, none⟩) xs.length c, .string sep] w fun e w' => e = .returned (.string ⟨(Lib.join (xs.map (·.data.toList)) sep.data.toList).toArray⟩) ∧ Below w.heap.size w w' := Any.strings_Join Tryd.lays156 Tryd.Builder_Extra_156 bk o c xs sep w hcells hbk hN hcap hlen
def Tryd.lays137_ren : Go.Shelf.Ren := ⟨fun | 137 => 74 | 217 => 85 | 266 => 94 | n => n, fun | 9 => 9 | 5 => 5 | 3 => 3 | n => n, fun | n => n⟩
theorem Tryd.lays137 : Go.Proofs.Lays.n137 Tryd.prog Tryd.lays137_ren := {
  mixed := by kernel_rfl
  f137 := Tryd.func74.trans (congrArg some (by kernel_rfl))
  f217 := Tryd.func85.trans (congrArg some (by kernel_rfl))
  f266 := Tryd.func94.trans (congrArg some (by kernel_rfl))
  t3 := Tryd.underlying3
  a3 := Tryd.isAgg3
  z3 := Tryd.sizeOf3
  v3 := Tryd.zeroValue3
  t5 := Tryd.underlying5
  a5 := Tryd.isAgg5
  z5 := Tryd.sizeOf5
  v5 := Tryd.zeroValue5
  t9 := Tryd.underlying9
  a9 := Tryd.isAgg9
  z9 := Tryd.sizeOf9
  v9 := Tryd.zeroValue9 }
open Go.RowKit in
theorem Tryd.strings_IndexByte (s : ByteArray) (c : Int) (w : World) :
    Calls Tryd.prog 74 #[.string s, .int .u8 c] w fun e w' => e = .returned (.int .i64 (Lib.indexByte s.data.toList c.toNat.toUInt8)) ∧ w' = w := Any.strings_IndexByte Tryd.lays137 s c w
def Tryd.laysM173_ren : Go.Shelf.Ren := ⟨fun | 173 => 51 | 246 => 73 | 283 => 81 | 284 => 82 | 285 => 83 | 286 => 84 | 129 => 90 | 317 => 89 | 318 => 91 | 319 => 92 | 320 => 93 | 337 => 95 | 338 => 96 | n => n, fun | 2 => 2 | 3 => 3 | 9 => 9 | 4 => 4 | 171 => 121 | 0 => 0 | 53 => 106 | 37 => 71 | 5 => 5 | 173 => 124 | 212 => 131 | 51 => 132 | 20 => 20 | 213 => 133 | 46 => 109 | 232 => 136 | 233 => 137 | n => n, fun | 17 => 5 | 18 => 6 | 19 => 7 | n => n⟩
theorem Tryd.laysM173 : Go.Proofs.LaysM.n173 Tryd.prog Tryd.laysM173_ren := {
  mixed := by kernel_rfl
  f129 := Tryd.func90.trans (congrArg some (by kernel_rfl))
  f173 := Tryd.func51.trans (congrArg some (by kernel_rfl))
  f246 := Tryd.func73.trans (congrArg some (by kernel_rfl))
  f283 := Tryd.func81.trans (congrArg some (by kernel_rfl))
  f284 := Tryd.func82.trans (congrArg some (by kernel_rfl))
  f285 := Tryd.func83.trans (congrArg some (by kernel_rfl))
  f286 := Tryd.func84.trans (congrArg some (by kernel_rfl))
  f317 := Tryd.func89.trans (congrArg some (by kernel_rfl))
  f318 := Tryd.func91.trans (congrArg some (by kernel_rfl))
  f319 := Tryd.func92.trans (congrArg some (by kernel_rfl))
  f320 := Tryd.func93.trans (congrArg some (by kernel_rfl))
  f337 := Tryd.func95.trans (congrArg some (by kernel_rfl))
  f338 := Tryd.func96.trans (congrArg some (by kernel_rfl))
  t0 := Tryd.underlying0
  a0 := Tryd.isAgg0
  z0 := Tryd.sizeOf0
  v0 := Tryd.zeroValue0
  t2 := Tryd.underlying2
  a2 := Tryd.isAgg2
  z2 := Tryd.sizeOf2
  v2 := Tryd.zeroValue2
  t3 := Tryd.underlying3
  a3 := Tryd.isAgg3
  z3 := Tryd.sizeOf3
  v3 := Tryd.zeroValue3
  t4 := Tryd.underlying4
  a4 := Tryd.isAgg4
  z4 := Tryd.sizeOf4
  v4 := Tryd.zeroValue4
  t5 := Tryd.underlying5
  a5 := Tryd.isAgg5
  z5 := Tryd.sizeOf5
  v5 := Tryd.zeroValue5
  t9 := Tryd.underlying9
  a9 := Tryd.isAgg9
  z9 := Tryd.sizeOf9
  v9 := Tryd.zeroValue9
  t20 := Tryd.underlying20
  a20 := Tryd.isAgg20
  z20 := Tryd.sizeOf20
  v20 := Tryd.zeroValue20
  t37 := Tryd.underlying71
  a37 := Tryd.isAgg71
  z37 := Tryd.sizeOf71
  v37 := Tryd.zeroValue71
  t46 := Tryd.underlying109
  a46 := Tryd.isAgg109
  z46 := Tryd.sizeOf109
  v46 := Tryd.zeroValue109
  t51 := Tryd.underlying132
  a51 := Tryd.isAgg132
  z51 := Tryd.sizeOf132
  v51 := Tryd.zeroValue132
  t53 := Tryd.underlying106
  a53 := Tryd.isAgg106
  z53 := Tryd.sizeOf106
  v53 := Tryd.zeroValue106
  t171 := Tryd.underlying121
  a171 := Tryd.isAgg121
  z171 := Tryd.sizeOf121
  v171 := Tryd.zeroValue121
  t173 := Tryd.underlying124
  a173 := Tryd.isAgg124
  z173 := Tryd.sizeOf124
  v173 := Tryd.zeroValue124
  t212 := Tryd.underlying131
  a212 := Tryd.isAgg131
  z212 := Tryd.sizeOf131
  v212 := Tryd.zeroValue131
  t213 := Tryd.underlying133
  a213 := Tryd.isAgg133
  z213 := Tryd.sizeOf133
  t232 := Tryd.underlying136
  a232 := Tryd.isAgg136
  z232 := Tryd.sizeOf136
  v232 := Tryd.zeroValue136
  t233 := Tryd.underlying137
  a233 := Tryd.isAgg137
  z233 := Tryd.sizeOf137
  v233 := Tryd.zeroValue137
  g17 := by kernel_rfl
  g18 := by kernel_rfl
  g19 := by kernel_rfl
  i0 := by kernel_rfl
  i2 := by kernel_rfl
  i3 := by kernel_rfl
  i4 := by kernel_rfl
  i5 := by kernel_rfl
  i9 := by kernel_rfl
  i20 := by kernel_rfl
  i37 := by kernel_rfl
  i46 := by kernel_rfl
  i51 := by kernel_rfl
  i53 := by kernel_rfl
  i171 := by kernel_rfl
  i173 := by kernel_rfl
  i212 := by kernel_rfl
  i232 := by kernel_rfl
  i233 := by kernel_rfl
  m17 := by kernel_rfl
  m18 := by kernel_rfl
  m19 := by kernel_rfl }
open Go.RowKit Go.Sort Go.Lib in
theorem Tryd.strconv_FormatInt_10 (n : Int) (h0 : -9223372036854775808 ≤ n) (h1 : n ≤ 9223372036854775807) (w : World) (htab : Lib.TabIs Tryd.prog w "internal/strconv.uint64pow10" .u64 Lib.pow10Tab) :
    Calls Tryd.prog 51 #[.int .i64 n, .int .i64 10] w fun e w' => e = .returned (.string ⟨(Lib.itoa n).toArray⟩) ∧ ∃ k os, w' = grow (w.drewN k) os := Any.strconv_FormatInt_10 Tryd.laysM173 n h0 h1 w htab
def Tryd.lays173_ren : Go.Shelf.Ren := ⟨fun | 173 => 51 | 246 => 73 | 283 => 81 | 284 => 82 | 285 => 83 | 286 => 84 | 129 => 90 | 317 => 89 | 318 => 91 | 319 => 92 | 320 => 93 | 337 => 95 | 338 => 96 | n => n, fun | 2 => 2 | 3 => 3 | 9 => 9 | 4 => 4 | 171 => 121 | 0 => 0 | 53 => 106 | 37 => 71 | 5 => 5 | 173 => 124 | 212 => 131 | 51 => 132 | 20 => 20 | 213 => 133 | 46 => 109 | 232 => 136 | 233 => 137 | n => n, fun | 17 => 5 | 18 => 6 | 19 => 7 | n => n⟩
theorem Tryd.lays173 : Go.Proofs.Lays.n173 Tryd.prog Tryd.lays173_ren := {
  mixed := by kernel_rfl
  f129 := Tryd.func90.trans (congrArg some (by kernel_rfl))
  f173 := Tryd.func51.trans (congrArg some (by kernel_rfl))
  f246 := Tryd.func73.trans (congrArg some (by kernel_rfl))
  f283 := Tryd.func81.trans (congrArg some (by kernel_rfl))
  f284 := Tryd.func82.trans (congrArg some (by kernel_rfl))
  f285 := Tryd.func83.trans (congrArg some (by kernel_rfl))
  f286 := Tryd.func84.trans (congrArg some (by kernel_rfl))
  f317 := Tryd.func89.trans (congrArg some (by kernel_rfl))
  f318 := Tryd.func91.trans (congrArg some (by kernel_rfl))
  f319 := Tryd.func92.trans (congrArg some (by kernel_rfl))
  f320 := Tryd.func93.trans (congrArg some (by kernel_rfl))
  f337 := Tryd.func95.trans (congrArg some (by kernel_rfl))
  f338 := Tryd.func96.trans (congrArg some (by kernel_rfl))
  t0 := Tryd.underlying0
  a0 := Tryd.isAgg0
  z0 := Tryd.sizeOf0
  v0 := Tryd.zeroValue0
  t2 := Tryd.underlying2
  a2 := Tryd.isAgg2
  z2 := Tryd.sizeOf2
  v2 := Tryd.zeroValue2
  t3 := Tryd.underlying3
  a3 := Tryd.isAgg3
  z3 := Tryd.sizeOf3
  v3 := Tryd.zeroValue3
  t4 := Tryd.underlying4
  a4 := Tryd.isAgg4
  z4 := Tryd.sizeOf4
  v4 := Tryd.zeroValue4
  t5 := Tryd.underlying5
  a5 := Tryd.isAgg5
  z5 := Tryd.sizeOf5
  v5 := Tryd.zeroValue5
  t9 := Tryd.underlying9
  a9 := Tryd.isAgg9
  z9 := Tryd.sizeOf9
  v9 := Tryd.zeroValue9
  t20 := Tryd.underlying20
  a20 := Tryd.isAgg20
  z20 := Tryd.sizeOf20
  v20 := Tryd.zeroValue20
  t37 := Tryd.underlying71
  a37 := Tryd.isAgg71
  z37 := Tryd.sizeOf71
  v37 := Tryd.zeroValue71
  t46 := Tryd.underlying109
  a46 := Tryd.isAgg109
  z46 := Tryd.sizeOf109
  v46 := Tryd.zeroValue109
  t51 := Tryd.underlying132
  a51 := Tryd.isAgg132
  z51 := Tryd.sizeOf132
  v51 := Tryd.zeroValue132
  t53 := Tryd.underlying106
  a53 := Tryd.isAgg106
  z53 := Tryd.sizeOf106
  v53 := Tryd.zeroValue106
  t171 := Tryd.underlying121
  a171 := Tryd.isAgg121
  z171 := Tryd.sizeOf121
  v171 := Tryd.zeroValue121
  t173 := Tryd.underlying124
  a173 := Tryd.isAgg124
  z173 := Tryd.sizeOf124
  v173 := Tryd.zeroValue124
  t212 := Tryd.underlying131
  a212 := Tryd.isAgg131
  z212 := Tryd.sizeOf131
  v212 := Tryd.zeroValue131
  t213 := Tryd.underlying133
  a213 := Tryd.isAgg133
  z213 := Tryd.sizeOf133
  t232 := Tryd.underlying136
  a232 := Tryd.isAgg136
  z232 := Tryd.sizeOf136
  v232 := Tryd.zeroValue136
  t233 := Tryd.underlying137
  a233 := Tryd.isAgg137
  z233 := Tryd.sizeOf137
  v233 := Tryd.zeroValue137
  g17 := by kernel_rfl
  g18 := by kernel_rfl
  g19 := by kernel_rfl }
open Go.RowKit Go.Sort Go.Lib in
theorem Tryd.strconv_FormatInt_10_small (i : Nat) (hi : i < 100) (w : World) :
    Calls Tryd.prog 51 #[.int .i64 i, .int .i64 10] w fun e w' => e = .returned (.string ⟨(Lib.decDigits i).toArray⟩) ∧ w' = w := Any.strconv_FormatInt_10_small Tryd.lays173 i hi w
def Tryd.laysM316_ren : Go.Shelf.Ren := ⟨fun | 316 => 64 | n => n, fun | 9 => 9 | 3 => 3 | 4 => 4 | 37 => 71 | 0 => 0 | 127 => 89 | 5 => 5 | n => n, fun | n => n⟩
theorem Tryd.laysM316 : Go.Proofs.LaysM.n316 Tryd.prog Tryd.laysM316_ren := {
  mixed := by kernel_rfl
  f316 := Tryd.func64.trans (congrArg some (by kernel_rfl))
  t0 := Tryd.underlying0
  a0 := Tryd.isAgg0
  z0 := Tryd.sizeOf0
  v0 := Tryd.zeroValue0
  t3 := Tryd.underlying3
  a3 := Tryd.isAgg3
  z3 := Tryd.sizeOf3
  v3 := Tryd.zeroValue3
  t4 := Tryd.underlying4
  a4 := Tryd.isAgg4
  z4 := Tryd.sizeOf4
  v4 := Tryd.zeroValue4
  t9 := Tryd.underlying9
  a9 := Tryd.isAgg9
  z9 := Tryd.sizeOf9
  v9 := Tryd.zeroValue9
  t37 := Tryd.underlying71
  a37 := Tryd.isAgg71
  z37 := Tryd.sizeOf71
  v37 := Tryd.zeroValue71
  t127 := Tryd.underlying89
  a127 := Tryd.isAgg89
  z127 := Tryd.sizeOf89
  v127 := Tryd.zeroValue89
  t5 := Tryd.underlying5
  a5 := Tryd.isAgg5
  z5 := Tryd.sizeOf5
  v5 := Tryd.zeroValue5
  i0 := by kernel_rfl
  i3 := by kernel_rfl
  i4 := by kernel_rfl
  i5 := by kernel_rfl
  i9 := by kernel_rfl
  i37 := by kernel_rfl
  i127 := by kernel_rfl }
open Go.RowKit in
theorem Tryd.stringslite_Clone (s : ByteArray) (w : World) (hlim : s.size ≤ 281474976710656) :
    Calls Tryd.prog 64 #[.string s] w fun e w' => e = .returned (.string s) ∧ Below w.heap.size w w' := Any.stringslite_Clone Tryd.laysM316 s w hlim
def Tryd.laysC174_ren : Go.Shelf.Ren := ⟨fun | 174 => 36 | 247 => 47 | 245 => 48 | 287 => 68 | 279 => 69 | 280 => 70 | 281 => 71 | 282 => 72 | 321 => 77 | 322 => 78 | 316 => 64 | 171 => 80 | 205 => 79 | 243 => 88 | 246 => 73 | 283 => 81 | 284 => 82 | 285 => 83 | 286 => 84 | 129 => 90 | 317 => 89 | 318 => 91 | 319 => 92 | 320 => 93 | 337 => 95 | 338 => 96 | n => n, fun | 9 => 9 | 3 => 3 | 2 => 2 | 75 => 76 | 85 => 84 | 4 => 4 | 167 => 105 | 5 => 5 | 53 => 106 | 175 => 107 | 46 => 109 | 168 => 110 | 37 => 71 | 0 => 0 | 210 => 119 | 21 => 21 | 127 => 89 | 145 => 128 | 143 => 126 | 171 => 121 | 173 => 124 | 212 => 131 | 51 => 132 | 20 => 20 | 213 => 133 | 232 => 136 | 233 => 137 | 80 => 79 | n => n, fun | 15 => 3 | 16 => 4 | 17 => 5 | 18 => 6 | 19 => 7 | n => n⟩
theorem Tryd.laysC174 : Go.Proofs.LaysC.n174 Tryd.prog Tryd.laysC174_ren := {
  mixed := by kernel_rfl
  f129 := Tryd.func90.trans (congrArg some (by kernel_rfl))
  f171 := Tryd.func80.trans (congrArg some (by kernel_rfl))
  f174 := Tryd.func36.trans (congrArg some (by kernel_rfl))
  f205 := Tryd.func79.trans (congrArg some (by kernel_rfl))
  f243 := Tryd.func88.trans (congrArg some (by kernel_rfl))
  f245 := Tryd.func48.trans (congrArg some (by kernel_rfl))
  f246 := Tryd.func73.trans (congrArg some (by kernel_rfl))
  f247 := Tryd.func47.trans (congrArg some (by kernel_rfl))
  f279 := Tryd.func69.trans (congrArg some (by kernel_rfl))
  f280 := Tryd.func70.trans (congrArg some (by kernel_rfl))
  f281 := Tryd.func71.trans (congrArg some (by kernel_rfl))
  f282 := Tryd.func72.trans (congrArg some (by kernel_rfl))
  f283 := Tryd.func81.trans (congrArg some (by kernel_rfl))
  f284 := Tryd.func82.trans (congrArg some (by kernel_rfl))
  f285 := Tryd.func83.trans (congrArg some (by kernel_rfl))
  f286 := Tryd.func84.trans (congrArg some (by kernel_rfl))
  f287 := Tryd.func68.trans (congrArg some (by kernel_rfl))
  f316 := Tryd.func64.trans (congrArg some (by kernel_rfl))
  f317 := Tryd.func89.trans (congrArg some (by kernel_rfl))
  f318 := Tryd.func91.trans (congrArg some (by kernel_rfl))
  f319 := Tryd.func92.trans (congrArg some (by kernel_rfl))
  f320 := Tryd.func93.trans (congrArg some (by kernel_rfl))
  f321 := Tryd.func77.trans (congrArg some (by kernel_rfl))
  f322 := Tryd.func78.trans (congrArg some (by kernel_rfl))
  f337 := Tryd.func95.trans (congrArg some (by kernel_rfl))
  f338 := Tryd.func96.trans (congrArg some (by kernel_rfl))
  t0 := Tryd.underlying0
  a0 := Tryd.isAgg0
  z0 := Tryd.sizeOf0
  v0 := Tryd.zeroValue0
  t2 := Tryd.underlying2
  a2 := Tryd.isAgg2
  z2 := Tryd.sizeOf2
  v2 := Tryd.zeroValue2
  t3 := Tryd.underlying3
  a3 := Tryd.isAgg3
  z3 := Tryd.sizeOf3
  v3 := Tryd.zeroValue3
  t4 := Tryd.underlying4
  a4 := Tryd.isAgg4
  z4 := Tryd.sizeOf4
  v4 := Tryd.zeroValue4
  t5 := Tryd.underlying5
  a5 := Tryd.isAgg5
  z5 := Tryd.sizeOf5
  v5 := Tryd.zeroValue5
  t9 := Tryd.underlying9
  a9 := Tryd.isAgg9
  z9 := Tryd.sizeOf9
  v9 := Tryd.zeroValue9
  t20 := Tryd.underlying20
  a20 := Tryd.isAgg20
  z20 := Tryd.sizeOf20
  v20 := Tryd.zeroValue20
  t21 := Tryd.underlying21
  a21 := Tryd.isAgg21
  z21 := Tryd.sizeOf21
  v21 := Tryd.zeroValue21
  t37 := Tryd.underlying71
  a37 := Tryd.isAgg71
  z37 := Tryd.sizeOf71
  v37 := Tryd.zeroValue71
  t46 := Tryd.underlying109
  a46 := Tryd.isAgg109
  z46 := Tryd.sizeOf109
  v46 := Tryd.zeroValue109
  t51 := Tryd.underlying132
  a51 := Tryd.isAgg132
  z51 := Tryd.sizeOf132
  v51 := Tryd.zeroValue132
  t53 := Tryd.underlying106
  a53 := Tryd.isAgg106
  z53 := Tryd.sizeOf106
  v53 := Tryd.zeroValue106
  t75 := Tryd.underlying76
  a75 := Tryd.isAgg76
  z75 := Tryd.sizeOf76
  v75 := Tryd.zeroValue76
  t85 := Tryd.underlying84
  a85 := Tryd.isAgg84
  z85 := Tryd.sizeOf84
  v85 := Tryd.zeroValue84
  t127 := Tryd.underlying89
  a127 := Tryd.isAgg89
  z127 := Tryd.sizeOf89
  v127 := Tryd.zeroValue89
  t143 := Tryd.underlying126
  a143 := Tryd.isAgg126
  z143 := Tryd.sizeOf126
  v143 := Tryd.zeroValue126
  t145 := Tryd.underlying128
  a145 := Tryd.isAgg128
  z145 := Tryd.sizeOf128
  v145 := Tryd.zeroValue128
  t167 := Tryd.underlying105
  a167 := Tryd.isAgg105
  z167 := Tryd.sizeOf105
  v167 := Tryd.zeroValue105
  t168 := Tryd.underlying110
  a168 := Tryd.isAgg110
  z168 := Tryd.sizeOf110
  v168 := Tryd.zeroValue110
  t171 := Tryd.underlying121
  a171 := Tryd.isAgg121
  z171 := Tryd.sizeOf121
  v171 := Tryd.zeroValue121
  t173 := Tryd.underlying124
  a173 := Tryd.isAgg124
  z173 := Tryd.sizeOf124
  v173 := Tryd.zeroValue124
  t175 := Tryd.underlying107
  a175 := Tryd.isAgg107
  z175 := Tryd.sizeOf107
  v175 := Tryd.zeroValue107
  t210 := Tryd.underlying119
  a210 := Tryd.isAgg119
  z210 := Tryd.sizeOf119
  v210 := Tryd.zeroValue119
  t212 := Tryd.underlying131
  a212 := Tryd.isAgg131
  z212 := Tryd.sizeOf131
  v212 := Tryd.zeroValue131
  t213 := Tryd.underlying133
  a213 := Tryd.isAgg133
  z213 := Tryd.sizeOf133
  t232 := Tryd.underlying136
  a232 := Tryd.isAgg136
  z232 := Tryd.sizeOf136
  v232 := Tryd.zeroValue136
  t233 := Tryd.underlying137
  a233 := Tryd.isAgg137
  z233 := Tryd.sizeOf137
  v233 := Tryd.zeroValue137
  g15 := by kernel_rfl
  g16 := by kernel_rfl
  g17 := by kernel_rfl
  g18 := by kernel_rfl
  g19 := by kernel_rfl
  t80 := Tryd.underlying79
  a80 := Tryd.isAgg79
  z80 := Tryd.sizeOf79
  v80 := Tryd.zeroValue79
  i0 := by kernel_rfl
  i2 := by kernel_rfl
  i3 := by kernel_rfl
  i4 := by kernel_rfl
  i5 := by kernel_rfl
  i9 := by kernel_rfl
  i20 := by kernel_rfl
  i21 := by kernel_rfl
  i37 := by kernel_rfl
  i46 := by kernel_rfl
  i51 := by kernel_rfl
  i53 := by kernel_rfl
  i75 := by kernel_rfl
  i80 := by kernel_rfl
  i85 := by kernel_rfl
  i127 := by kernel_rfl
  i143 := by kernel_rfl
  i145 := by kernel_rfl
  i167 := by kernel_rfl
  i168 := by kernel_rfl
  i171 := by kernel_rfl
  i173 := by kernel_rfl
  i175 := by kernel_rfl
  i210 := by kernel_rfl
  i212 := by kernel_rfl
  i232 := by kernel_rfl
  i233 := by kernel_rfl
  m15 := by kernel_rfl
  m16 := by kernel_rfl
  m17 := by kernel_rfl
  m18 := by kernel_rfl
  m19 := by kernel_rfl
  c0 := by kernel_rfl
  c2 := by kernel_rfl
  c3 := by kernel_rfl
  c4 := by kernel_rfl
  c5 := by kernel_rfl
  c9 := by kernel_rfl
  c20 := by kernel_rfl
  c21 := by kernel_rfl
  c37 := by kernel_rfl
  c46 := by kernel_rfl
  c51 := by kernel_rfl
  c53 := by kernel_rfl
  c75 := by kernel_rfl
  c80 := by kernel_rfl
  c85 := by kernel_rfl
  c127 := by kernel_rfl
  c143 := by kernel_rfl
  c145 := by kernel_rfl
  c167 := by kernel_rfl
  c168 := by kernel_rfl
  c171 := by kernel_rfl
  c173 := by kernel_rfl
  c175 := by kernel_rfl
  c210 := by kernel_rfl
  c212 := by kernel_rfl
  c213 := by kernel_rfl
  c232 := by kernel_rfl
  c233 := by kernel_rfl }
open Go.RowKit in
theorem Tryd.strconv_ParseInt_10_at64_ok (s : ByteArray) (hmax : s.size ≤ 9223372036854775806) (v : Int) (h : Lib.parseIntB 64 s.data.toList = .ok v) (w : World) :
    Calls Tryd.prog 36 #[.string s, .int .i64 10, .int .i64 64] w fun e w' => e = .returned (.tuple #[.int .i64 v, .nilIface]) ∧ (w' = w ∨ ∃ t, w' = Lib.bytesWorld w 5 t) := Any.strconv_ParseInt_10_at64_ok Tryd.laysC174 s hmax v h w
def Tryd.lays99_ren : Go.Shelf.Ren := ⟨fun | 99 => 76 | 206 => 87 | n => n, fun | 9 => 9 | 4 => 4 | 3 => 3 | n => n, fun | n => n⟩
theorem Tryd.lays99 : Go.Proofs.Lays.n99 Tryd.prog Tryd.lays99_ren := {
  mixed := by kernel_rfl
  f99 := Tryd.func76.trans (congrArg some (by kernel_rfl))
  f206 := Tryd.func87.trans (congrArg some (by kernel_rfl))
  t3 := Tryd.underlying3
  a3 := Tryd.isAgg3
  z3 := Tryd.sizeOf3
  v3 := Tryd.zeroValue3
  t4 := Tryd.underlying4
  a4 := Tryd.isAgg4
  z4 := Tryd.sizeOf4
  v4 := Tryd.zeroValue4
  t9 := Tryd.underlying9
  a9 := Tryd.isAgg9
  z9 := Tryd.sizeOf9
  v9 := Tryd.zeroValue9 }
open Go.RowKit Go.Lib in
theorem Tryd.strings_HasPrefix (s p : ByteArray) (w : World) :
    Calls Tryd.prog 76 #[.string s, .string p] w fun e w' => e = .returned (.bool (Lib.hasPrefix s.data.toList p.data.toList)) ∧ w' = w := Any.strings_HasPrefix Tryd.lays99 s p w
def Tryd.lays101_ren : Go.Shelf.Ren := ⟨fun | 101 => 75 | 208 => 86 | 206 => 87 | n => n, fun | 9 => 9 | 4 => 4 | 3 => 3 | n => n, fun | n => n⟩
theorem Tryd.lays101 : Go.Proofs.Lays.n101 Tryd.prog Tryd.lays101_ren := {
  mixed := by kernel_rfl
  f101 := Tryd.func75.trans (congrArg some (by kernel_rfl))
  f206 := Tryd.func87.trans (congrArg some (by kernel_rfl))
  f208 := Tryd.func86.trans (congrArg some (by kernel_rfl))
  t3 := Tryd.underlying3
  a3 := Tryd.isAgg3
  z3 := Tryd.sizeOf3
  v3 := Tryd.zeroValue3
  t4 := Tryd.underlying4
  a4 := Tryd.isAgg4
  z4 := Tryd.sizeOf4
  v4 := Tryd.zeroValue4
  t9 := Tryd.underlying9
  a9 := Tryd.isAgg9
  z9 := Tryd.sizeOf9
  v9 := Tryd.zeroValue9 }
open Go.RowKit Go.Lib in
theorem Tryd.strings_TrimPrefix (s p : ByteArray) (w : World) :
    Calls Tryd.prog 75 #[.string s, .string p] w fun e w' => e = .returned (.string ⟨(Lib.trimPrefix s.data.toList p.data.toList).toArray⟩) ∧ w' = w := Any.strings_TrimPrefix Tryd.lays101 s p w
end Go.Proofs.YtcfhpodpkficaaaDoor
namespace Go.Proofs.YtcfhpodpkficaaaDoor.Lx
open Go.RowKit

/-- A text's bytes; the byte at a place, as a number. -/
abbrev bs (s : ByteArray) : List UInt8 := s.data.toList
def bt (s : ByteArray) (j : Nat) : Nat := ((bs s).getD j 0).toNat
theorem bt_lt (s : ByteArray) (j : Nat) : bt s j < 256 := UInt8.toNat_lt _
theorem bs_length (s : ByteArray) : (bs s).length = s.size := rfl
theorem bt_at (s : ByteArray) (j : Nat) (h : j < s.size) : (s[j]'h).toNat = bt s j := by
  unfold bt bs
  rw [List.getD, Array.getElem?_toList, Array.getElem?_eq_getElem (show j < s.data.size from h)]
  rfl

theorem ret_bool {a b : Bool} (h : a = b) : Ending.returned (.bool a) = Ending.returned (.bool b) := by rw [h]
theorem ret_int {a b : Int} (h : a = b) : Ending.returned (.int .i64 a) = Ending.returned (.int .i64 b) := by rw [h]

theorem isSmall_any (n : Nat) (w : World) :
    Calls Tryd.prog 56 #[.int .u8 (n : Int)] w fun e w' => e = .returned (.bool (smallN n)) ∧ w' = w := by
  go_enter Tryd.func56, Tryd.ntmps56
  go_wp2
  all_goals (go_ret; refine ⟨ret_bool ?_, rfl⟩; unfold smallN; rw [Bool.eq_iff_iff]; simp; omega)

theorem isGreat_any (n : Nat) (w : World) :
    Calls Tryd.prog 59 #[.int .u8 (n : Int)] w fun e w' => e = .returned (.bool (greatN n)) ∧ w' = w := by
  go_enter Tryd.func59, Tryd.ntmps59
  go_wp2
  all_goals (go_ret; refine ⟨ret_bool ?_, rfl⟩; unfold greatN; rw [Bool.eq_iff_iff]; simp; omega)

theorem isDigit_any (n : Nat) (w : World) :
    Calls Tryd.prog 61 #[.int .u8 (n : Int)] w fun e w' => e = .returned (.bool (digitN n)) ∧ w' = w := by
  go_enter Tryd.func61, Tryd.ntmps61
  go_wp2
  all_goals (go_ret; refine ⟨ret_bool ?_, rfl⟩; unfold digitN; rw [Bool.eq_iff_iff]; simp; omega)

theorem isBlank_any (n : Nat) (w : World) :
    Calls Tryd.prog 54 #[.int .u8 (n : Int)] w fun e w' => e = .returned (.bool (blankN n)) ∧ w' = w := by
  by_cases h1 : n = 32
  · subst h1
    go_enter Tryd.func54, Tryd.ntmps54
    go_wp2
    go_ret
    exact ⟨rfl, rfl⟩
  · by_cases h2 : n = 9
    · subst h2
      go_enter Tryd.func54, Tryd.ntmps54
      go_wp2
      go_ret
      exact ⟨rfl, rfl⟩
    · by_cases h3 : n = 10
      · subst h3
        go_enter Tryd.func54, Tryd.ntmps54
        go_wp2
        go_ret
        exact ⟨rfl, rfl⟩
      · have g1 : ((n : Int) == 32) = false := by simp; omega
        have g2 : ((n : Int) == 9) = false := by simp; omega
        have g3 : ((n : Int) == 10) = false := by simp; omega
        go_enter Tryd.func54, Tryd.ntmps54
        go_wp2
        all_goals (go_ret; refine ⟨ret_bool ?_, rfl⟩; unfold blankN; rw [Bool.eq_iff_iff]; simp; omega)

theorem inName_any (n : Nat) (w : World) :
    Calls Tryd.prog 58 #[.int .u8 (n : Int)] w fun e w' => e = .returned (.bool (nameN n)) ∧ w' = w := by
  cases h1 : smallN n <;> cases h2 : digitN n
  all_goals (go_enter Tryd.func58, Tryd.ntmps58)
  all_goals (go_wp2_with (first
    | (go_at_call 56; refine (isSmall_any _ _).mono ?_; rintro e w' ⟨rfl, hw⟩; have hw' := hw.symm; subst hw'; clear hw; rw [h1])
    | (go_at_call 61; refine (isDigit_any _ _).mono ?_; rintro e w' ⟨rfl, hw⟩; have hw' := hw.symm; subst hw'; clear hw; rw [h2])))
  all_goals (go_ret; refine ⟨ret_bool ?_, rfl⟩; simp [nameN, h1, h2])
  all_goals (rw [Bool.eq_iff_iff]; simp; omega)

theorem inVar_any (n : Nat) (w : World) :
    Calls Tryd.prog 60 #[.int .u8 (n : Int)] w fun e w' => e = .returned (.bool (varN n)) ∧ w' = w := by
  cases h1 : nameN n
  all_goals (go_enter Tryd.func60, Tryd.ntmps60)
  all_goals (go_wp2_with (first
    | (go_at_call 58; refine (inName_any _ _).mono ?_; rintro e w' ⟨rfl, hw⟩; have hw' := hw.symm; subst hw'; clear hw; rw [h1])
    | (go_at_call 59; refine (isGreat_any _ _).mono ?_; rintro e w' ⟨rfl, hw⟩; have hw' := hw.symm; subst hw'; clear hw)))
  all_goals (go_ret; refine ⟨ret_bool ?_, rfl⟩; simp [varN, h1])

/-- What a function of one byte that is handed in gives. -/
def Good (f : FuncId) (p : Nat → Bool) : Prop := ∀ (n : Nat) (w : World), Calls Tryd.prog f #[.int .u8 (n : Int)] w fun e w' => e = .returned (.bool (p n)) ∧ w' = w

set_option maxHeartbeats 1000000 in
theorem run_any (f : FuncId) (p : Nat → Bool) (hf : Good f p) (he : Go.Proofs.Enters Tryd.prog f) (s : ByteArray) (w : World) (hs : s.size ≤ 4611686018427387904) :
    Calls Tryd.prog 57 #[.string s, .func (.func f) #[] #[]] w fun e w' => e = .returned (.int .i64 ((runP p (bs s) : Nat) : Int)) ∧ w' = w := by
  have he' : ∀ (args : Array Value) (w : World), (callFunc f args).run Tryd.prog w = .ok (.enter f args) w := he
  go_enter Tryd.func57, Tryd.ntmps57
  go_wp2
  go_loopw [8] (fun i wr => ∃ k : Nat, k ≤ s.size ∧ i = .int .i64 k ∧ Hid (∀ j, j < k → p (bt s j) = true) ∧ wr = w) (fun i _ => s.size - (intOf i).toNat)
  case atStart => exact ⟨0, Nat.zero_le _, rfl, fun j h => absurd h (Nat.not_lt_zero _), rfl⟩
  case round =>
    obtain ⟨k, hk, rfl, hh, hw⟩ := hrel
    have hw' := hw.symm
    subst hw'
    by_cases hlt : k < s.size
    · have bk := bt_at s k hlt
      cases hp : p (bt s k)
      all_goals (go_wp2_with (go_at_fn f; refine (hf _ _).mono ?_; rintro e w' ⟨rfl, hw⟩; have hw' := hw.symm; subst hw'; clear hw; rw [hp]))
      · go_ret
        exact ⟨ret_int (by rw [runP_eq p (bs s) k hk hh.out (Or.inr hp)]), rfl⟩
      · go_roundw
        case rel =>
          refine ⟨k + 1, by omega, by go_num, fun j hj => ?_, trivial⟩
          by_cases e : j < k
          · exact hh.out j e
          · have : j = k := by omega
            rw [this]; exact hp
        case measure => simp [intOf]; omega
    · have hke : k = s.size := by omega
      subst hke
      go_wp2
      go_ret
      exact ⟨ret_int (by rw [runP_eq p (bs s) s.size (Nat.le_refl _) hh.out (Or.inl rfl)]), rfl⟩

theorem enters18 : Go.Proofs.Enters Tryd.prog 58 := Go.Proofs.enters_of Tryd.func58 (by kernel_rfl) rfl
theorem enters20 : Go.Proofs.Enters Tryd.prog 60 := Go.Proofs.enters_of Tryd.func60 (by kernel_rfl) rfl
theorem enters21 : Go.Proofs.Enters Tryd.prog 61 := Go.Proofs.enters_of Tryd.func61 (by kernel_rfl) rfl

theorem indexByte_line (L : List UInt8) : (Lib.indexByte L 10 = -1 ∧ lineL L = L.length) ∨ (0 ≤ Lib.indexByte L 10 ∧ Lib.indexByte L 10 = (lineL L : Int)) := by
  induction L with
  | nil => left; exact ⟨rfl, rfl⟩
  | cons c t ih =>
    by_cases h : c = 10
    · subst h
      right
      exact ⟨by simp [Lib.indexByte], by simp [Lib.indexByte, lineL, runP]⟩
    · have hn : ¬ c.toNat = 10 := fun e => h (UInt8.toNat_inj.1 (by rw [e]; rfl))
      have e1 : lineL (c :: t) = lineL t + 1 := by simp [lineL, runP, hn]
      have e2 : Lib.indexByte (c :: t) 10 = if Lib.indexByte t 10 == -1 then -1 else Lib.indexByte t 10 + 1 := by simp [Lib.indexByte, h]
      rw [e1, e2]
      rcases ih with ⟨a, b⟩ | ⟨a, b⟩
      · left; rw [a, b]; exact ⟨rfl, by simp⟩
      · right
        have : (Lib.indexByte t 10 == -1) = false := by simp; omega
        rw [this]
        exact ⟨by simp; omega, by simp; omega⟩

theorem lineSize_any (s : ByteArray) (w : World) (_hs : s.size ≤ 4611686018427387904) :
    Calls Tryd.prog 55 #[.string s] w fun e w' => e = .returned (.int .i64 ((lineL (bs s) : Nat) : Int)) ∧ w' = w := by
  rcases indexByte_line (bs s) with ⟨h1, h2⟩ | ⟨h1, h2⟩
  · go_enter Tryd.func55, Tryd.ntmps55
    go_wp2_with (go_at_call 74; refine (Tryd.strings_IndexByte _ _ _).mono ?_; rintro e w' ⟨rfl, hw⟩; have hw' := hw.symm; subst hw'; clear hw; rw [show Lib.indexByte (Array.toList s.data) (10 : Int).toNat.toUInt8 = -1 from h1])
    go_ret
    exact ⟨ret_int (by rw [h2]; rfl), rfl⟩
  · have hl : lineL (bs s) ≤ s.size := runP_le _ _
    go_enter Tryd.func55, Tryd.ntmps55
    go_wp2_with (go_at_call 74; refine (Tryd.strings_IndexByte _ _ _).mono ?_; rintro e w' ⟨rfl, hw⟩; have hw' := hw.symm; subst hw'; clear hw; rw [show Lib.indexByte (Array.toList s.data) (10 : Int).toNat.toUInt8 = (lineL (bs s) : Int) from h2])
    go_ret
    exact ⟨rfl, rfl⟩

end Go.Proofs.YtcfhpodpkficaaaDoor.Lx
namespace Go.Proofs.YtcfhpodpkficaaaDoor.Lx
open Go.RowKit
set_option maxRecDepth 4000

/-- The table of signs, as it lies in memory. -/
def sg (i : Nat) : ByteArray := ⟨(signsL.getD i []).toArray⟩
def Sg (w : World) : Prop := ∀ i, i < 10 → w.cell? ⟨2, i, none⟩ = some (.string (sg i))
theorem Sg.below {w w' : World} (h : Sg w) (hb : Below w.heap.size w w') : Sg w' := fun i hi =>
  (World.cell?_of_block (w := w) (a := ⟨2, i, none⟩) (hb.block 2 (World.block_lt_of_cell? w ⟨2, i, none⟩ (h i hi)))).trans (h i hi)

theorem pre_sign (L x : List UInt8) : Lib.hasPrefix L x = x.isPrefixOf L := rfl

theorem ix0 (w : World) : (Instr.index 116 (.agg #[.string ⟨#[40]⟩, .string ⟨#[41]⟩, .string ⟨#[44]⟩, .string ⟨#[46]⟩, .string ⟨#[58, 45]⟩, .string ⟨#[33, 61]⟩, .string ⟨#[33]⟩, .string ⟨#[61]⟩, .string ⟨#[60, 61]⟩, .string ⟨#[60]⟩]) (.int .i64 0)).run Tryd.prog w = .ok (.string ⟨#[40]⟩) w := by kernel_rfl
theorem ix1 (w : World) : (Instr.index 116 (.agg #[.string ⟨#[40]⟩, .string ⟨#[41]⟩, .string ⟨#[44]⟩, .string ⟨#[46]⟩, .string ⟨#[58, 45]⟩, .string ⟨#[33, 61]⟩, .string ⟨#[33]⟩, .string ⟨#[61]⟩, .string ⟨#[60, 61]⟩, .string ⟨#[60]⟩]) (.int .i64 1)).run Tryd.prog w = .ok (.string ⟨#[41]⟩) w := by kernel_rfl
theorem ix2 (w : World) : (Instr.index 116 (.agg #[.string ⟨#[40]⟩, .string ⟨#[41]⟩, .string ⟨#[44]⟩, .string ⟨#[46]⟩, .string ⟨#[58, 45]⟩, .string ⟨#[33, 61]⟩, .string ⟨#[33]⟩, .string ⟨#[61]⟩, .string ⟨#[60, 61]⟩, .string ⟨#[60]⟩]) (.int .i64 2)).run Tryd.prog w = .ok (.string ⟨#[44]⟩) w := by kernel_rfl
theorem ix3 (w : World) : (Instr.index 116 (.agg #[.string ⟨#[40]⟩, .string ⟨#[41]⟩, .string ⟨#[44]⟩, .string ⟨#[46]⟩, .string ⟨#[58, 45]⟩, .string ⟨#[33, 61]⟩, .string ⟨#[33]⟩, .string ⟨#[61]⟩, .string ⟨#[60, 61]⟩, .string ⟨#[60]⟩]) (.int .i64 3)).run Tryd.prog w = .ok (.string ⟨#[46]⟩) w := by kernel_rfl
theorem ix4 (w : World) : (Instr.index 116 (.agg #[.string ⟨#[40]⟩, .string ⟨#[41]⟩, .string ⟨#[44]⟩, .string ⟨#[46]⟩, .string ⟨#[58, 45]⟩, .string ⟨#[33, 61]⟩, .string ⟨#[33]⟩, .string ⟨#[61]⟩, .string ⟨#[60, 61]⟩, .string ⟨#[60]⟩]) (.int .i64 4)).run Tryd.prog w = .ok (.string ⟨#[58, 45]⟩) w := by kernel_rfl
theorem ix5 (w : World) : (Instr.index 116 (.agg #[.string ⟨#[40]⟩, .string ⟨#[41]⟩, .string ⟨#[44]⟩, .string ⟨#[46]⟩, .string ⟨#[58, 45]⟩, .string ⟨#[33, 61]⟩, .string ⟨#[33]⟩, .string ⟨#[61]⟩, .string ⟨#[60, 61]⟩, .string ⟨#[60]⟩]) (.int .i64 5)).run Tryd.prog w = .ok (.string ⟨#[33, 61]⟩) w := by kernel_rfl
theorem ix6 (w : World) : (Instr.index 116 (.agg #[.string ⟨#[40]⟩, .string ⟨#[41]⟩, .string ⟨#[44]⟩, .string ⟨#[46]⟩, .string ⟨#[58, 45]⟩, .string ⟨#[33, 61]⟩, .string ⟨#[33]⟩, .string ⟨#[61]⟩, .string ⟨#[60, 61]⟩, .string ⟨#[60]⟩]) (.int .i64 6)).run Tryd.prog w = .ok (.string ⟨#[33]⟩) w := by kernel_rfl
theorem ix7 (w : World) : (Instr.index 116 (.agg #[.string ⟨#[40]⟩, .string ⟨#[41]⟩, .string ⟨#[44]⟩, .string ⟨#[46]⟩, .string ⟨#[58, 45]⟩, .string ⟨#[33, 61]⟩, .string ⟨#[33]⟩, .string ⟨#[61]⟩, .string ⟨#[60, 61]⟩, .string ⟨#[60]⟩]) (.int .i64 7)).run Tryd.prog w = .ok (.string ⟨#[61]⟩) w := by kernel_rfl
theorem ix8 (w : World) : (Instr.index 116 (.agg #[.string ⟨#[40]⟩, .string ⟨#[41]⟩, .string ⟨#[44]⟩, .string ⟨#[46]⟩, .string ⟨#[58, 45]⟩, .string ⟨#[33, 61]⟩, .string ⟨#[33]⟩, .string ⟨#[61]⟩, .string ⟨#[60, 61]⟩, .string ⟨#[60]⟩]) (.int .i64 8)).run Tryd.prog w = .ok (.string ⟨#[60, 61]⟩) w := by kernel_rfl
theorem ix9 (w : World) : (Instr.index 116 (.agg #[.string ⟨#[40]⟩, .string ⟨#[41]⟩, .string ⟨#[44]⟩, .string ⟨#[46]⟩, .string ⟨#[58, 45]⟩, .string ⟨#[33, 61]⟩, .string ⟨#[33]⟩, .string ⟨#[61]⟩, .string ⟨#[60, 61]⟩, .string ⟨#[60]⟩]) (.int .i64 9)).run Tryd.prog w = .ok (.string ⟨#[60]⟩) w := by kernel_rfl

set_option maxHeartbeats 1000000 in
theorem signSize_any (s : ByteArray) (w : World) (h : Sg w) :
    Calls Tryd.prog 63 #[.string s] w fun e w' => e = .returned (.int .i64 ((signL (bs s) : Nat) : Int)) ∧ w' = w := by
  have c0 : w.cell? ⟨2, 0, none⟩ = some (.string ⟨#[40]⟩) := h 0 (by decide)
  have c1 : w.cell? ⟨2, 1, none⟩ = some (.string ⟨#[41]⟩) := h 1 (by decide)
  have c2 : w.cell? ⟨2, 2, none⟩ = some (.string ⟨#[44]⟩) := h 2 (by decide)
  have c3 : w.cell? ⟨2, 3, none⟩ = some (.string ⟨#[46]⟩) := h 3 (by decide)
  have c4 : w.cell? ⟨2, 4, none⟩ = some (.string ⟨#[58, 45]⟩) := h 4 (by decide)
  have c5 : w.cell? ⟨2, 5, none⟩ = some (.string ⟨#[33, 61]⟩) := h 5 (by decide)
  have c6 : w.cell? ⟨2, 6, none⟩ = some (.string ⟨#[33]⟩) := h 6 (by decide)
  have c7 : w.cell? ⟨2, 7, none⟩ = some (.string ⟨#[61]⟩) := h 7 (by decide)
  have c8 : w.cell? ⟨2, 8, none⟩ = some (.string ⟨#[60, 61]⟩) := h 8 (by decide)
  have c9 : w.cell? ⟨2, 9, none⟩ = some (.string ⟨#[60]⟩) := h 9 (by decide)
  go_enter Tryd.func63, Tryd.ntmps63
  go_wp2
  clear c0 c1 c2 c3 c4 c5 c6 c7 c8 c9
  refine wp_loop_rounds 11 ?_
  have i0 := ix0 w
  rw [rounds_succ]
  go_wp2_with (go_at_call 76; refine (Tryd.strings_HasPrefix _ _ _).mono ?_; rintro e w' ⟨rfl, hw⟩; have hw' := hw.symm; subst hw'; clear hw)
  · go_ret
    refine ⟨ret_int ?_, rfl⟩
    simp_all [signL, signsL, signIn, pre_sign]
  clear i0
  have i1 := ix1 w
  rw [rounds_succ]
  go_wp2_with (go_at_call 76; refine (Tryd.strings_HasPrefix _ _ _).mono ?_; rintro e w' ⟨rfl, hw⟩; have hw' := hw.symm; subst hw'; clear hw)
  · go_ret
    refine ⟨ret_int ?_, rfl⟩
    simp_all [signL, signsL, signIn, pre_sign]
  clear i1
  have i2 := ix2 w
  rw [rounds_succ]
  go_wp2_with (go_at_call 76; refine (Tryd.strings_HasPrefix _ _ _).mono ?_; rintro e w' ⟨rfl, hw⟩; have hw' := hw.symm; subst hw'; clear hw)
  · go_ret
    refine ⟨ret_int ?_, rfl⟩
    simp_all [signL, signsL, signIn, pre_sign]
  clear i2
  have i3 := ix3 w
  rw [rounds_succ]
  go_wp2_with (go_at_call 76; refine (Tryd.strings_HasPrefix _ _ _).mono ?_; rintro e w' ⟨rfl, hw⟩; have hw' := hw.symm; subst hw'; clear hw)
  · go_ret
    refine ⟨ret_int ?_, rfl⟩
    simp_all [signL, signsL, signIn, pre_sign]
  clear i3
  have i4 := ix4 w
  rw [rounds_succ]
  go_wp2_with (go_at_call 76; refine (Tryd.strings_HasPrefix _ _ _).mono ?_; rintro e w' ⟨rfl, hw⟩; have hw' := hw.symm; subst hw'; clear hw)
  · go_ret
    refine ⟨ret_int ?_, rfl⟩
    simp_all [signL, signsL, signIn, pre_sign]
  clear i4
  have i5 := ix5 w
  rw [rounds_succ]
  go_wp2_with (go_at_call 76; refine (Tryd.strings_HasPrefix _ _ _).mono ?_; rintro e w' ⟨rfl, hw⟩; have hw' := hw.symm; subst hw'; clear hw)
  · go_ret
    refine ⟨ret_int ?_, rfl⟩
    simp_all [signL, signsL, signIn, pre_sign]
  clear i5
  have i6 := ix6 w
  rw [rounds_succ]
  go_wp2_with (go_at_call 76; refine (Tryd.strings_HasPrefix _ _ _).mono ?_; rintro e w' ⟨rfl, hw⟩; have hw' := hw.symm; subst hw'; clear hw)
  · go_ret
    refine ⟨ret_int ?_, rfl⟩
    simp_all [signL, signsL, signIn, pre_sign]
  clear i6
  have i7 := ix7 w
  rw [rounds_succ]
  go_wp2_with (go_at_call 76; refine (Tryd.strings_HasPrefix _ _ _).mono ?_; rintro e w' ⟨rfl, hw⟩; have hw' := hw.symm; subst hw'; clear hw)
  · go_ret
    refine ⟨ret_int ?_, rfl⟩
    simp_all [signL, signsL, signIn, pre_sign]
  clear i7
  have i8 := ix8 w
  rw [rounds_succ]
  go_wp2_with (go_at_call 76; refine (Tryd.strings_HasPrefix _ _ _).mono ?_; rintro e w' ⟨rfl, hw⟩; have hw' := hw.symm; subst hw'; clear hw)
  · go_ret
    refine ⟨ret_int ?_, rfl⟩
    simp_all [signL, signsL, signIn, pre_sign]
  clear i8
  have i9 := ix9 w
  rw [rounds_succ]
  go_wp2_with (go_at_call 76; refine (Tryd.strings_HasPrefix _ _ _).mono ?_; rintro e w' ⟨rfl, hw⟩; have hw' := hw.symm; subst hw'; clear hw)
  · go_ret
    refine ⟨ret_int ?_, rfl⟩
    simp_all [signL, signsL, signIn, pre_sign]
  clear i9
  rw [rounds_succ]
  go_wp2
  go_ret
  refine ⟨ret_int ?_, rfl⟩
  simp_all [signL, signsL, signIn, pre_sign]

theorem trim_minus (c : UInt8) (t : List UInt8) : Lib.trimPrefix (c :: t) [45] = if c = 45 then t else c :: t := by
  by_cases h : c = 45
  · subst h; simp [Lib.trimPrefix, Lib.hasPrefix, List.isPrefixOf]
  · have : (45 == c) = false := by simpa using fun e => h e.symm
    simp [Lib.trimPrefix, Lib.hasPrefix, List.isPrefixOf, this, h]

theorem num_cut (c : UInt8) (t X : List UInt8) (h1 : ¬ c.toNat = 48) (hX : Lib.trimPrefix (c :: t) [45] = X) :
    (Lib.hasPrefix X [48] = true → numL (c :: t) = 0) ∧ (Lib.hasPrefix X [48] = false → runP digitN X = 0 → numL (c :: t) = 0) ∧
    (Lib.hasPrefix X [48] = false → runP digitN X ≠ 0 → numL (c :: t) = t.length + 1 - X.length + runP digitN X) ∧ X.length ≤ t.length + 1 := by
  rw [trim_minus] at hX
  by_cases h2 : c = 45
  · rw [if_pos h2] at hX
    subst h2 hX
    have hp : ∀ d r, Lib.hasPrefix (d :: r) [48] = true ↔ d.toNat = 48 := fun d r => by
      rw [pre_sign, isPre1]
      simp only [beq_iff_eq]
      exact ⟨fun e => by rw [← e]; rfl, fun e => UInt8.toNat_inj.1 (by rw [e]; rfl)⟩
    match t with
    | [] => exact ⟨fun h => absurd h (by decide), fun _ _ => by decide, fun _ h => absurd rfl h, by simp⟩
    | d :: r =>
      have e : numL (45 :: d :: r) = if d.toNat = 48 then 0 else if digitN d.toNat = true then runP digitN r + 2 else 0 := by simp [numL]
      refine ⟨fun h => ?_, fun h hr => ?_, fun h hr => ?_, by simp⟩
      · rw [e, if_pos ((hp d r).1 h)]
      · rw [e]
        by_cases h4 : digitN d.toNat = true
        · simp [runP, h4] at hr
        · simp [h4]
      · have h3 : ¬ d.toNat = 48 := fun x => by rw [(hp d r).2 x] at h; cases h
        by_cases h4 : digitN d.toNat = true
        · rw [e, if_neg h3, if_pos h4]
          simp [runP, h4]
          omega
        · simp [runP, h4] at hr
  · rw [if_neg h2] at hX
    subst hX
    have h2' : ¬ c.toNat = 45 := fun e => h2 (UInt8.toNat_inj.1 (by rw [e]; rfl))
    have e : numL (c :: t) = runP digitN (c :: t) := by simp only [numL, if_neg h1, if_neg h2']
    refine ⟨fun h => ?_, fun _ hr => by rw [e, hr], fun _ _ => by rw [e]; simp, by simp⟩
    rw [pre_sign, isPre1, beq_iff_eq] at h
    exact absurd (by rw [← h]; rfl) h1

set_option maxHeartbeats 1000000 in
theorem numberSize_any (s : ByteArray) (w : World) (h0 : 0 < s.size) (hs : s.size ≤ 4611686018427387904) :
    Calls Tryd.prog 62 #[.string s] w fun e w' => e = .returned (.int .i64 ((numL (bs s) : Nat) : Int)) ∧ w' = w := by
  have b0 := bt_at s 0 h0
  obtain ⟨c, t, hct⟩ : ∃ c t, Hid (bs s = c :: t) := by
    match h : bs s with
    | [] => have := bs_length s; rw [h] at this; simp at this; omega
    | c :: t => exact ⟨c, t, rfl⟩
  have hb0 : bt s 0 = c.toNat := by simp [bt, hct.out]
  have hlen : t.length + 1 = s.size := by have := bs_length s; rw [hct.out] at this; simpa using this
  rw [hb0] at b0
  clear hb0
  by_cases h1 : c.toNat = 48
  · rw [h1] at b0
    go_enter Tryd.func62, Tryd.ntmps62
    go_wp2
    go_ret
    exact ⟨ret_int (by rw [hct.out]; simp [numL, h1]), rfl⟩
  · have g1 : ((c.toNat : Int) == 48) = false := by simp; omega
    obtain ⟨X, hX⟩ : ∃ X, Hid (Lib.trimPrefix (c :: t) [45] = X) := ⟨_, rfl⟩
    obtain ⟨D, hD⟩ : ∃ D : ByteArray, Hid (({ data := X.toArray } : ByteArray) = D) := ⟨_, rfl⟩
    obtain ⟨n1, n2, n3, n4⟩ := num_cut c t X h1 hX.out
    have hDs : D.size = X.length := by rw [← hD.out]; simp [ByteArray.size]
    have hDb : Hid (bs D = X) := by rw [← hD.out]; rfl
    have N1 : Hid _ := n1
    have N2 : Hid _ := n2
    have N3 : Hid _ := n3
    clear n1 n2 n3
    obtain ⟨r, hr⟩ : ∃ r, Hid (runP digitN X = r) := ⟨_, rfl⟩
    have hrl : r ≤ X.length := by rw [← hr.out]; exact runP_le _ _
    by_cases hr0 : r = 0
    · cases hp : Lib.hasPrefix X [48]
      all_goals (go_enter Tryd.func62, Tryd.ntmps62)
      all_goals (go_wp2_with (first
        | (go_at_call 75; refine (Tryd.strings_TrimPrefix _ _ _).mono ?_; rintro e w' ⟨rfl, hw⟩; have hw' := hw.symm; subst hw'; clear hw; rw [show Array.toList s.data = c :: t from hct.out, show Array.toList (ByteArray.mk #[45]).data = [45] from rfl, hX.out, hD.out])
        | (go_at_call 76; refine (Tryd.strings_HasPrefix _ _ _).mono ?_; rintro e w' ⟨rfl, hw⟩; have hw' := hw.symm; subst hw'; clear hw; rw [show Array.toList D.data = X from hDb.out, show Array.toList (ByteArray.mk #[48]).data = [48] from rfl, hp])
        | (go_at_call 57; refine (run_any 61 digitN isDigit_any enters21 _ _ (by omega)).mono ?_; rintro e w' ⟨rfl, hw⟩; have hw' := hw.symm; subst hw'; clear hw; rw [hDb.out, hr.out, hr0])))
      all_goals go_ret
      · exact ⟨ret_int (by rw [hct.out, N2.out hp (by rw [hr.out, hr0])]; rfl), rfl⟩
      · exact ⟨ret_int (by rw [hct.out, N1.out hp]; rfl), rfl⟩
    · have g2 : ((r : Int) == 0) = false := by simp; omega
      have g3 : ((s.size : Int) - (D.size : Int)) = ((s.size - D.size : Nat) : Int) := by omega
      cases hp : Lib.hasPrefix X [48]
      all_goals (go_enter Tryd.func62, Tryd.ntmps62)
      all_goals (go_wp2_with (first
        | (go_at_call 75; refine (Tryd.strings_TrimPrefix _ _ _).mono ?_; rintro e w' ⟨rfl, hw⟩; have hw' := hw.symm; subst hw'; clear hw; rw [show Array.toList s.data = c :: t from hct.out, show Array.toList (ByteArray.mk #[45]).data = [45] from rfl, hX.out, hD.out])
        | (go_at_call 76; refine (Tryd.strings_HasPrefix _ _ _).mono ?_; rintro e w' ⟨rfl, hw⟩; have hw' := hw.symm; subst hw'; clear hw; rw [show Array.toList D.data = X from hDb.out, show Array.toList (ByteArray.mk #[48]).data = [48] from rfl, hp])
        | (go_at_call 57; refine (run_any 61 digitN isDigit_any enters21 _ _ (by omega)).mono ?_; rintro e w' ⟨rfl, hw⟩; have hw' := hw.symm; subst hw'; clear hw; rw [hDb.out, hr.out])))
      all_goals go_ret
      · refine ⟨ret_int ?_, rfl⟩
        rw [hct.out, N3.out hp (by rw [hr.out]; exact hr0), hr.out]
        omega
      · exact ⟨ret_int (by rw [hct.out, N1.out hp]; rfl), rfl⟩

end Go.Proofs.YtcfhpodpkficaaaDoor.Lx
namespace Go.Proofs.YtcfhpodpkficaaaDoor.Lx
open Go.RowKit

theorem bs_extract (s : ByteArray) (a b : Nat) : bs (s.extract a b) = ((bs s).drop a).take (b - a) := by
  unfold bs
  rw [ByteArray.data_extract, Array.toList_extract, List.extract_eq_take_drop]

theorem bs_from (s : ByteArray) (a : Nat) : bs (s.extract a s.size) = (bs s).drop a := by
  rw [bs_extract s a s.size, List.take_of_length_le (by rw [List.length_drop, bs_length]; exact Nat.le_refl _)]

theorem size_from (s : ByteArray) (a : Nat) : (s.extract a s.size).size = s.size - a := by simp

/-- What first gives. -/
def firstK (L : List UInt8) : Nat := if sizeL L = 0 ∨ 16 < sizeL L then 0 else kindL L
def firstN (L : List UInt8) : Nat := if sizeL L = 0 ∨ 16 < sizeL L then 0 else sizeL L

theorem ret_two {a b c d : Int} (h : a = c) (g : b = d) : Ending.returned (.tuple #[.int .i64 a, .int .i64 b]) = Ending.returned (.tuple #[.int .i64 c, .int .i64 d]) := by rw [h, g]

set_option maxHeartbeats 4000000 in
theorem first_any (s : ByteArray) (w : World) (h : Sg w) (h0 : 0 < s.size) (hs : s.size ≤ 4611686018427387904) :
    Calls Tryd.prog 42 #[.string s] w fun e w' => e = .returned (.tuple #[.int .i64 ((firstK (bs s) : Nat) : Int), .int .i64 ((firstN (bs s) : Nat) : Int)]) ∧ w' = w := by
  have b0 := bt_at s 0 h0
  have HS : Hid (Sg w) := h
  clear h
  obtain ⟨n, hn⟩ : ∃ n, Hid (sizeL (bs s) = n) := ⟨_, rfl⟩
  have hle : n ≤ s.size := by rw [← hn.out]; exact sizeL_le _
  have hk : Hid (kindL (bs s) = kindN (bt s 0)) := rfl
  have HB : Hid (n = 0 ∨ 16 < n → firstK (bs s) = 0 ∧ firstN (bs s) = 0) := by rw [← hn.out]; exact fun e => ⟨if_pos e, if_pos e⟩
  have HG : Hid (¬ (n = 0 ∨ 16 < n) → firstK (bs s) = kindN (bt s 0) ∧ firstN (bs s) = n) := by rw [← hn.out]; exact fun e => ⟨if_neg e, if_neg e⟩
  have hz : Hid ((kindN (bt s 0) = 1 → runP nameN (bs s) = n) ∧ (kindN (bt s 0) = 2 → runP varN (bs s) = n) ∧ (kindN (bt s 0) = 3 → numL (bs s) = n) ∧ (kindN (bt s 0) = 4 → signL (bs s) = n)) := by
    rw [← hn.out]
    refine ⟨fun e => ?_, fun e => ?_, fun e => ?_, fun e => ?_⟩ <;> rw [← hk.out] at e <;> simp [sizeL, e]
  clear hn hk
  generalize bt s 0 = c at *
  have hc : n = 0 ∨ 16 < n ∨ (n ≠ 0 ∧ n ≤ 16) := by omega
  by_cases h1 : smallN c = true
  · have hkk : Hid (kindN c = 1) := show kindN c = 1 by simp [kindN, h1]
    have h2 : greatN c = false := by simp [smallN, greatN] at h1 ⊢; omega
    have h3 : digitN c = false := by simp [smallN, digitN] at h1 ⊢; omega
    rcases hc with rfl | hb | ⟨hb0, hb⟩
    · go_enter Tryd.func42, Tryd.ntmps42
      go_wp2_with (first
      | (go_at_call 56; refine (isSmall_any _ _).mono ?_; rintro e w' ⟨rfl, hw⟩; have hw' := hw.symm; subst hw'; clear hw; rw [h1])
      | (go_at_call 59; refine (isGreat_any _ _).mono ?_; rintro e w' ⟨rfl, hw⟩; have hw' := hw.symm; subst hw'; clear hw; rw [h2])
      | (go_at_call 61; refine (isDigit_any _ _).mono ?_; rintro e w' ⟨rfl, hw⟩; have hw' := hw.symm; subst hw'; clear hw; rw [h3])
      | (go_at_call 57; refine (run_any 58 nameN inName_any enters18 _ _ (by omega)).mono ?_; rintro e w' ⟨rfl, hw⟩; have hw' := hw.symm; subst hw'; clear hw; rw [hz.out.1 hkk.out]))
      go_ret2
      exact ⟨ret_two (by rw [(HB.out (by simp)).1]; rfl) (by rw [(HB.out (by simp)).2]; rfl), rfl⟩
    · have gb : ((n : Int) == 0) = false := by simp; omega
      go_enter Tryd.func42, Tryd.ntmps42
      go_wp2_with (first
      | (go_at_call 56; refine (isSmall_any _ _).mono ?_; rintro e w' ⟨rfl, hw⟩; have hw' := hw.symm; subst hw'; clear hw; rw [h1])
      | (go_at_call 59; refine (isGreat_any _ _).mono ?_; rintro e w' ⟨rfl, hw⟩; have hw' := hw.symm; subst hw'; clear hw; rw [h2])
      | (go_at_call 61; refine (isDigit_any _ _).mono ?_; rintro e w' ⟨rfl, hw⟩; have hw' := hw.symm; subst hw'; clear hw; rw [h3])
      | (go_at_call 57; refine (run_any 58 nameN inName_any enters18 _ _ (by omega)).mono ?_; rintro e w' ⟨rfl, hw⟩; have hw' := hw.symm; subst hw'; clear hw; rw [hz.out.1 hkk.out]))
      go_ret2
      exact ⟨ret_two (by rw [(HB.out (Or.inr hb)).1]; rfl) (by rw [(HB.out (Or.inr hb)).2]; rfl), rfl⟩
    · have gb : ((n : Int) == 0) = false := by simp; omega
      go_enter Tryd.func42, Tryd.ntmps42
      go_wp2_with (first
      | (go_at_call 56; refine (isSmall_any _ _).mono ?_; rintro e w' ⟨rfl, hw⟩; have hw' := hw.symm; subst hw'; clear hw; rw [h1])
      | (go_at_call 59; refine (isGreat_any _ _).mono ?_; rintro e w' ⟨rfl, hw⟩; have hw' := hw.symm; subst hw'; clear hw; rw [h2])
      | (go_at_call 61; refine (isDigit_any _ _).mono ?_; rintro e w' ⟨rfl, hw⟩; have hw' := hw.symm; subst hw'; clear hw; rw [h3])
      | (go_at_call 57; refine (run_any 58 nameN inName_any enters18 _ _ (by omega)).mono ?_; rintro e w' ⟨rfl, hw⟩; have hw' := hw.symm; subst hw'; clear hw; rw [hz.out.1 hkk.out]))
      go_ret2
      exact ⟨ret_two (by rw [(HG.out (by omega)).1, hkk.out]; rfl) (by rw [(HG.out (by omega)).2]), rfl⟩
  rw [Bool.not_eq_true] at h1
  by_cases h2 : greatN c = true
  · have hkk : Hid (kindN c = 2) := show kindN c = 2 by simp [kindN, h1, h2]
    have h3 : digitN c = false := by simp [greatN, digitN] at h2 ⊢; omega
    rcases hc with rfl | hb | ⟨hb0, hb⟩
    · go_enter Tryd.func42, Tryd.ntmps42
      go_wp2_with (first
      | (go_at_call 56; refine (isSmall_any _ _).mono ?_; rintro e w' ⟨rfl, hw⟩; have hw' := hw.symm; subst hw'; clear hw; rw [h1])
      | (go_at_call 59; refine (isGreat_any _ _).mono ?_; rintro e w' ⟨rfl, hw⟩; have hw' := hw.symm; subst hw'; clear hw; rw [h2])
      | (go_at_call 61; refine (isDigit_any _ _).mono ?_; rintro e w' ⟨rfl, hw⟩; have hw' := hw.symm; subst hw'; clear hw; rw [h3])
      | (go_at_call 57; refine (run_any 60 varN inVar_any enters20 _ _ (by omega)).mono ?_; rintro e w' ⟨rfl, hw⟩; have hw' := hw.symm; subst hw'; clear hw; rw [hz.out.2.1 hkk.out]))
      go_ret2
      exact ⟨ret_two (by rw [(HB.out (by simp)).1]; rfl) (by rw [(HB.out (by simp)).2]; rfl), rfl⟩
    · have gb : ((n : Int) == 0) = false := by simp; omega
      go_enter Tryd.func42, Tryd.ntmps42
      go_wp2_with (first
      | (go_at_call 56; refine (isSmall_any _ _).mono ?_; rintro e w' ⟨rfl, hw⟩; have hw' := hw.symm; subst hw'; clear hw; rw [h1])
      | (go_at_call 59; refine (isGreat_any _ _).mono ?_; rintro e w' ⟨rfl, hw⟩; have hw' := hw.symm; subst hw'; clear hw; rw [h2])
      | (go_at_call 61; refine (isDigit_any _ _).mono ?_; rintro e w' ⟨rfl, hw⟩; have hw' := hw.symm; subst hw'; clear hw; rw [h3])
      | (go_at_call 57; refine (run_any 60 varN inVar_any enters20 _ _ (by omega)).mono ?_; rintro e w' ⟨rfl, hw⟩; have hw' := hw.symm; subst hw'; clear hw; rw [hz.out.2.1 hkk.out]))
      go_ret2
      exact ⟨ret_two (by rw [(HB.out (Or.inr hb)).1]; rfl) (by rw [(HB.out (Or.inr hb)).2]; rfl), rfl⟩
    · have gb : ((n : Int) == 0) = false := by simp; omega
      go_enter Tryd.func42, Tryd.ntmps42
      go_wp2_with (first
      | (go_at_call 56; refine (isSmall_any _ _).mono ?_; rintro e w' ⟨rfl, hw⟩; have hw' := hw.symm; subst hw'; clear hw; rw [h1])
      | (go_at_call 59; refine (isGreat_any _ _).mono ?_; rintro e w' ⟨rfl, hw⟩; have hw' := hw.symm; subst hw'; clear hw; rw [h2])
      | (go_at_call 61; refine (isDigit_any _ _).mono ?_; rintro e w' ⟨rfl, hw⟩; have hw' := hw.symm; subst hw'; clear hw; rw [h3])
      | (go_at_call 57; refine (run_any 60 varN inVar_any enters20 _ _ (by omega)).mono ?_; rintro e w' ⟨rfl, hw⟩; have hw' := hw.symm; subst hw'; clear hw; rw [hz.out.2.1 hkk.out]))
      go_ret2
      exact ⟨ret_two (by rw [(HG.out (by omega)).1, hkk.out]; rfl) (by rw [(HG.out (by omega)).2]), rfl⟩
  rw [Bool.not_eq_true] at h2
  by_cases h3 : digitN c = true
  · have hkk : Hid (kindN c = 3) := show kindN c = 3 by simp [kindN, h1, h2, h3]
    rcases hc with rfl | hb | ⟨hb0, hb⟩
    · go_enter Tryd.func42, Tryd.ntmps42
      go_wp2_with (first
      | (go_at_call 56; refine (isSmall_any _ _).mono ?_; rintro e w' ⟨rfl, hw⟩; have hw' := hw.symm; subst hw'; clear hw; rw [h1])
      | (go_at_call 59; refine (isGreat_any _ _).mono ?_; rintro e w' ⟨rfl, hw⟩; have hw' := hw.symm; subst hw'; clear hw; rw [h2])
      | (go_at_call 61; refine (isDigit_any _ _).mono ?_; rintro e w' ⟨rfl, hw⟩; have hw' := hw.symm; subst hw'; clear hw; rw [h3])
      | (go_at_call 62; refine (numberSize_any _ _ h0 hs).mono ?_; rintro e w' ⟨rfl, hw⟩; have hw' := hw.symm; subst hw'; clear hw; rw [hz.out.2.2.1 hkk.out]))
      go_ret2
      exact ⟨ret_two (by rw [(HB.out (by simp)).1]; rfl) (by rw [(HB.out (by simp)).2]; rfl), rfl⟩
    · have gb : ((n : Int) == 0) = false := by simp; omega
      go_enter Tryd.func42, Tryd.ntmps42
      go_wp2_with (first
      | (go_at_call 56; refine (isSmall_any _ _).mono ?_; rintro e w' ⟨rfl, hw⟩; have hw' := hw.symm; subst hw'; clear hw; rw [h1])
      | (go_at_call 59; refine (isGreat_any _ _).mono ?_; rintro e w' ⟨rfl, hw⟩; have hw' := hw.symm; subst hw'; clear hw; rw [h2])
      | (go_at_call 61; refine (isDigit_any _ _).mono ?_; rintro e w' ⟨rfl, hw⟩; have hw' := hw.symm; subst hw'; clear hw; rw [h3])
      | (go_at_call 62; refine (numberSize_any _ _ h0 hs).mono ?_; rintro e w' ⟨rfl, hw⟩; have hw' := hw.symm; subst hw'; clear hw; rw [hz.out.2.2.1 hkk.out]))
      go_ret2
      exact ⟨ret_two (by rw [(HB.out (Or.inr hb)).1]; rfl) (by rw [(HB.out (Or.inr hb)).2]; rfl), rfl⟩
    · have gb : ((n : Int) == 0) = false := by simp; omega
      go_enter Tryd.func42, Tryd.ntmps42
      go_wp2_with (first
      | (go_at_call 56; refine (isSmall_any _ _).mono ?_; rintro e w' ⟨rfl, hw⟩; have hw' := hw.symm; subst hw'; clear hw; rw [h1])
      | (go_at_call 59; refine (isGreat_any _ _).mono ?_; rintro e w' ⟨rfl, hw⟩; have hw' := hw.symm; subst hw'; clear hw; rw [h2])
      | (go_at_call 61; refine (isDigit_any _ _).mono ?_; rintro e w' ⟨rfl, hw⟩; have hw' := hw.symm; subst hw'; clear hw; rw [h3])
      | (go_at_call 62; refine (numberSize_any _ _ h0 hs).mono ?_; rintro e w' ⟨rfl, hw⟩; have hw' := hw.symm; subst hw'; clear hw; rw [hz.out.2.2.1 hkk.out]))
      go_ret2
      exact ⟨ret_two (by rw [(HG.out (by omega)).1, hkk.out]; rfl) (by rw [(HG.out (by omega)).2]), rfl⟩
  rw [Bool.not_eq_true] at h3
  by_cases h4 : c = 45
  · have hkk : Hid (kindN c = 3) := show kindN c = 3 by unfold kindN; rw [if_neg (by rw [h1]; decide), if_neg (by rw [h2]; decide), if_pos (Or.inr h4)]
    have h4' : ((c : Int) == 45) = true := by rw [h4]; rfl
    clear h4
    rcases hc with rfl | hb | ⟨hb0, hb⟩
    · go_enter Tryd.func42, Tryd.ntmps42
      go_wp2_with (first
      | (go_at_call 56; refine (isSmall_any _ _).mono ?_; rintro e w' ⟨rfl, hw⟩; have hw' := hw.symm; subst hw'; clear hw; rw [h1])
      | (go_at_call 59; refine (isGreat_any _ _).mono ?_; rintro e w' ⟨rfl, hw⟩; have hw' := hw.symm; subst hw'; clear hw; rw [h2])
      | (go_at_call 61; refine (isDigit_any _ _).mono ?_; rintro e w' ⟨rfl, hw⟩; have hw' := hw.symm; subst hw'; clear hw; rw [h3])
      | (go_at_call 62; refine (numberSize_any _ _ h0 hs).mono ?_; rintro e w' ⟨rfl, hw⟩; have hw' := hw.symm; subst hw'; clear hw; rw [hz.out.2.2.1 hkk.out]))
      go_ret2
      exact ⟨ret_two (by rw [(HB.out (by simp)).1]; rfl) (by rw [(HB.out (by simp)).2]; rfl), rfl⟩
    · have gb : ((n : Int) == 0) = false := by simp; omega
      go_enter Tryd.func42, Tryd.ntmps42
      go_wp2_with (first
      | (go_at_call 56; refine (isSmall_any _ _).mono ?_; rintro e w' ⟨rfl, hw⟩; have hw' := hw.symm; subst hw'; clear hw; rw [h1])
      | (go_at_call 59; refine (isGreat_any _ _).mono ?_; rintro e w' ⟨rfl, hw⟩; have hw' := hw.symm; subst hw'; clear hw; rw [h2])
      | (go_at_call 61; refine (isDigit_any _ _).mono ?_; rintro e w' ⟨rfl, hw⟩; have hw' := hw.symm; subst hw'; clear hw; rw [h3])
      | (go_at_call 62; refine (numberSize_any _ _ h0 hs).mono ?_; rintro e w' ⟨rfl, hw⟩; have hw' := hw.symm; subst hw'; clear hw; rw [hz.out.2.2.1 hkk.out]))
      go_ret2
      exact ⟨ret_two (by rw [(HB.out (Or.inr hb)).1]; rfl) (by rw [(HB.out (Or.inr hb)).2]; rfl), rfl⟩
    · have gb : ((n : Int) == 0) = false := by simp; omega
      go_enter Tryd.func42, Tryd.ntmps42
      go_wp2_with (first
      | (go_at_call 56; refine (isSmall_any _ _).mono ?_; rintro e w' ⟨rfl, hw⟩; have hw' := hw.symm; subst hw'; clear hw; rw [h1])
      | (go_at_call 59; refine (isGreat_any _ _).mono ?_; rintro e w' ⟨rfl, hw⟩; have hw' := hw.symm; subst hw'; clear hw; rw [h2])
      | (go_at_call 61; refine (isDigit_any _ _).mono ?_; rintro e w' ⟨rfl, hw⟩; have hw' := hw.symm; subst hw'; clear hw; rw [h3])
      | (go_at_call 62; refine (numberSize_any _ _ h0 hs).mono ?_; rintro e w' ⟨rfl, hw⟩; have hw' := hw.symm; subst hw'; clear hw; rw [hz.out.2.2.1 hkk.out]))
      go_ret2
      exact ⟨ret_two (by rw [(HG.out (by omega)).1, hkk.out]; rfl) (by rw [(HG.out (by omega)).2]), rfl⟩
  · have hkk : Hid (kindN c = 4) := show kindN c = 4 by simp [kindN, h1, h2, h3, h4]
    have h4' : ((c : Int) == 45) = false := by simp; omega
    rcases hc with rfl | hb | ⟨hb0, hb⟩
    · go_enter Tryd.func42, Tryd.ntmps42
      go_wp2_with (first
      | (go_at_call 56; refine (isSmall_any _ _).mono ?_; rintro e w' ⟨rfl, hw⟩; have hw' := hw.symm; subst hw'; clear hw; rw [h1])
      | (go_at_call 59; refine (isGreat_any _ _).mono ?_; rintro e w' ⟨rfl, hw⟩; have hw' := hw.symm; subst hw'; clear hw; rw [h2])
      | (go_at_call 61; refine (isDigit_any _ _).mono ?_; rintro e w' ⟨rfl, hw⟩; have hw' := hw.symm; subst hw'; clear hw; rw [h3])
      | (go_at_call 63; refine (signSize_any _ _ HS.out).mono ?_; rintro e w' ⟨rfl, hw⟩; have hw' := hw.symm; subst hw'; clear hw; rw [hz.out.2.2.2 hkk.out]))
      go_ret2
      exact ⟨ret_two (by rw [(HB.out (by simp)).1]; rfl) (by rw [(HB.out (by simp)).2]; rfl), rfl⟩
    · have gb : ((n : Int) == 0) = false := by simp; omega
      go_enter Tryd.func42, Tryd.ntmps42
      go_wp2_with (first
      | (go_at_call 56; refine (isSmall_any _ _).mono ?_; rintro e w' ⟨rfl, hw⟩; have hw' := hw.symm; subst hw'; clear hw; rw [h1])
      | (go_at_call 59; refine (isGreat_any _ _).mono ?_; rintro e w' ⟨rfl, hw⟩; have hw' := hw.symm; subst hw'; clear hw; rw [h2])
      | (go_at_call 61; refine (isDigit_any _ _).mono ?_; rintro e w' ⟨rfl, hw⟩; have hw' := hw.symm; subst hw'; clear hw; rw [h3])
      | (go_at_call 63; refine (signSize_any _ _ HS.out).mono ?_; rintro e w' ⟨rfl, hw⟩; have hw' := hw.symm; subst hw'; clear hw; rw [hz.out.2.2.2 hkk.out]))
      go_ret2
      exact ⟨ret_two (by rw [(HB.out (Or.inr hb)).1]; rfl) (by rw [(HB.out (Or.inr hb)).2]; rfl), rfl⟩
    · have gb : ((n : Int) == 0) = false := by simp; omega
      go_enter Tryd.func42, Tryd.ntmps42
      go_wp2_with (first
      | (go_at_call 56; refine (isSmall_any _ _).mono ?_; rintro e w' ⟨rfl, hw⟩; have hw' := hw.symm; subst hw'; clear hw; rw [h1])
      | (go_at_call 59; refine (isGreat_any _ _).mono ?_; rintro e w' ⟨rfl, hw⟩; have hw' := hw.symm; subst hw'; clear hw; rw [h2])
      | (go_at_call 61; refine (isDigit_any _ _).mono ?_; rintro e w' ⟨rfl, hw⟩; have hw' := hw.symm; subst hw'; clear hw; rw [h3])
      | (go_at_call 63; refine (signSize_any _ _ HS.out).mono ?_; rintro e w' ⟨rfl, hw⟩; have hw' := hw.symm; subst hw'; clear hw; rw [hz.out.2.2.2 hkk.out]))
      go_ret2
      exact ⟨ret_two (by rw [(HG.out (by omega)).1, hkk.out]; rfl) (by rw [(HG.out (by omega)).2]), rfl⟩

set_option maxHeartbeats 1000000 in
theorem skip_any (s : ByteArray) (a : Nat) (w : World) (ha : a ≤ s.size) (hs : s.size ≤ 4611686018427387904) :
    Calls Tryd.prog 41 #[.string s, .int .i64 (a : Int)] w fun e w' => (∃ b : Nat, e = .returned (.int .i64 (b : Int)) ∧ b ≤ s.size ∧ a ≤ b ∧ scanAt (bs s) a = scanAt (bs s) b ∧ (b < s.size → blankN (bt s b) = false ∧ bt s b ≠ 37)) ∧ w' = w := by
  go_enter Tryd.func41, Tryd.ntmps41
  go_wp2
  go_loopw [1] (fun i wr => ∃ k : Nat, k ≤ s.size ∧ a ≤ k ∧ i = .int .i64 k ∧ Hid (scanAt (bs s) a = scanAt (bs s) k) ∧ wr = w) (fun i _ => s.size - (intOf i).toNat)
  case atStart => exact ⟨a, ha, Nat.le_refl _, rfl, rfl, rfl⟩
  case round =>
    obtain ⟨k, hk, hak, rfl, hh, hw⟩ := hrel
    have hw' := hw.symm
    subst hw'
    by_cases hlt : k < s.size
    · have bk := bt_at s k hlt
      cases hb : blankN (bt s k)
      · by_cases hp : bt s k = 37
        · have hn := scanAt_note (bs s) k hlt hp
          obtain ⟨l, hl⟩ : ∃ l, Hid (lineL ((bs s).drop k) = l) := ⟨_, rfl⟩
          rw [hl.out, bs_length] at hn
          obtain ⟨hn1, hn2, hn3⟩ := hn
          have HN : Hid _ := hn1
          clear hn1
          rw [hp] at bk hb
          go_wp2_with (first
            | (go_at_call 54; refine (isBlank_any _ _).mono ?_; rintro e w' ⟨rfl, hw⟩; have hw' := hw.symm; subst hw'; clear hw; rw [hb])
            | (go_at_call 55; refine (lineSize_any _ _ (by simp; omega)).mono ?_; rintro e w' ⟨rfl, hw⟩; have hw' := hw.symm; subst hw'; clear hw; rw [bs_from, hl.out]))
          go_roundw
          case rel => exact ⟨k + l, by omega, by omega, by go_num, hh.out.trans HN.out, trivial⟩
          case measure => simp [intOf]; omega
        · have hp' : ((bt s k : Int) == 37) = false := by simp; omega
          go_wp2_with (go_at_call 54; refine (isBlank_any _ _).mono ?_; rintro e w' ⟨rfl, hw⟩; have hw' := hw.symm; subst hw'; clear hw; rw [hb])
          go_ret
          exact ⟨⟨k, rfl, hk, hak, hh.out, fun _ => ⟨hb, hp⟩⟩, rfl⟩
      · have HB : Hid _ := scanAt_blank (bs s) k hlt hb
        go_wp2_with (go_at_call 54; refine (isBlank_any _ _).mono ?_; rintro e w' ⟨rfl, hw⟩; have hw' := hw.symm; subst hw'; clear hw; rw [hb])
        go_roundw
        case rel => exact ⟨k + 1, by omega, by omega, by go_num, hh.out.trans HB.out, trivial⟩
        case measure => simp [intOf]; omega
    · have hke : k = s.size := by omega
      subst hke
      go_wp2
      go_ret
      exact ⟨⟨s.size, rfl, Nat.le_refl _, hak, hh.out, fun h => absurd h (Nat.lt_irrefl _)⟩, rfl⟩

end Go.Proofs.YtcfhpodpkficaaaDoor.Lx

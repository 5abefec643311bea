/- Beginnings of a text that has a fault, in plain mathematics: which of them have none. The longest beginning of a text that has no fault; its words. Whether the last word of the longest good beginning goes on. Whether the last word of the longest good beginning goes on: what its sixteen bytes say. -/
import Derived.Test.YtcfhpodpkficaaaGreatDoorPart11
import Derived.Test.YtcfhpodpkficaaaGreatDoorPart03
namespace Go.Proofs.YtcfhpodpkficaaaGreatDoor.Ft
open Lx

theorem runP_cut (p : Nat → Bool) (L : List UInt8) (n : Nat) (h : n ≤ runP p L) : runP p (L.take n) = n := by
  induction L generalizing n with
  | nil => simp [runP] at h; simp [runP, h]
  | cons c t ih =>
    cases n with
    | zero => rfl
    | succ n =>
      by_cases hc : p c.toNat = true
      · have e : runP p (c :: t) = runP p t + 1 := by simp [runP, hc]
        rw [List.take_succ_cons, runP, if_pos hc, ih n (by omega)]
      · have e : runP p (c :: t) = 0 := by simp [runP, hc]
        omega
theorem runP_beyond (p : Nat → Bool) (L : List UInt8) (n : Nat) (h : runP p L ≤ n) : runP p (L.take n) = runP p L := by
  induction L generalizing n with
  | nil => simp
  | cons c t ih =>
    by_cases hc : p c.toNat = true
    · have e : runP p (c :: t) = runP p t + 1 := by simp [runP, hc]
      cases n with
      | zero => omega
      | succ n => rw [List.take_succ_cons, runP, if_pos hc, ih n (by omega), e]
    · have e : runP p (c :: t) = 0 := by simp [runP, hc]
      rw [e]
      cases n with
      | zero => rfl
      | succ n => simp [runP, hc]

theorem num_beyond (L : List UInt8) (n : Nat) (h : numL L ≤ n) (h2 : 2 ≤ n ∨ numL L ≠ 0 ∨ True) (hn : 0 < n) : numL L ≠ 0 → numL (L.take n) = numL L := by
  intro h0
  match L with
  | [] => simp [numL] at h0
  | c :: t =>
    obtain ⟨n, rfl⟩ : ∃ k, n = k + 1 := ⟨n - 1, by omega⟩
    rw [List.take_succ_cons]
    by_cases h1 : c.toNat = 48
    · simp [numL, h1]
    · by_cases h2' : c.toNat = 45
      · match t with
        | [] => simp [numL, h2'] at h0
        | d :: r =>
          by_cases h3 : d.toNat = 48
          · simp [numL, h2', h3] at h0
          · by_cases h4 : digitN d.toNat = true
            · have e : numL (c :: d :: r) = runP digitN r + 2 := by simp [numL, h2', h3, h4]
              obtain ⟨n, rfl⟩ : ∃ k, n = k + 1 := ⟨n - 1, by omega⟩
              rw [List.take_succ_cons, e]
              simp only [numL, if_neg h1, if_pos h2', if_neg h3, if_pos h4]
              rw [runP_beyond _ _ _ (by omega)]
            · simp [numL, h2', h3, h4] at h0
      · have e : ∀ t, numL (c :: t) = runP digitN (c :: t) := fun t => by simp only [numL, if_neg h1, if_neg h2']
        rw [e, e]
        have := runP_beyond digitN (c :: t) (n + 1) (by rw [← e]; exact h)
        rwa [List.take_succ_cons] at this

/-- A word that is cut behind its first byte, or later, is a word, but for ':' and '-'. -/
theorem num_cut (c : UInt8) (t : List UInt8) (n : Nat) (h : n ≤ numL (c :: t)) (h2 : 2 ≤ n ∨ (n = 1 ∧ c.toNat ≠ 45)) : numL ((c :: t).take n) = n := by
  obtain ⟨k, rfl⟩ : ∃ k, n = k + 1 := ⟨n - 1, by omega⟩
  rw [List.take_succ_cons]
  by_cases h1 : c.toNat = 48
  · have e : numL (c :: t) = 1 := by simp [numL, h1]
    have : k = 0 := by omega
    subst this
    simp [numL, h1]
  · by_cases h2' : c.toNat = 45
    · match t with
      | [] => simp [numL, h2'] at h
      | d :: r =>
        by_cases h3 : d.toNat = 48
        · simp [numL, h2', h3] at h
        · by_cases h4 : digitN d.toNat = true
          · have e : numL (c :: d :: r) = runP digitN r + 2 := by simp [numL, h2', h3, h4]
            obtain ⟨q, rfl⟩ : ∃ q, k = q + 1 := ⟨k - 1, by omega⟩
            rw [List.take_succ_cons]
            simp only [numL, if_neg h1, if_pos h2', if_neg h3, if_pos h4]
            rw [runP_cut _ _ _ (by omega)]
          · simp [numL, h2', h3, h4] at h
    · have e : ∀ t, numL (c :: t) = runP digitN (c :: t) := fun t => by simp only [numL, if_neg h1, if_neg h2']
      rw [e]
      have := runP_cut digitN (c :: t) (k + 1) (by rw [← e]; exact h)
      rwa [List.take_succ_cons] at this

theorem kind_take (c : UInt8) (t : List UInt8) (n : Nat) : kindL ((c :: t).take (n + 1)) = kindL (c :: t) := by simp [kindL]

theorem sign_one (c : UInt8) (t : List UInt8) (h : signL (c :: t) ≠ 0) : (c.toNat = 58 ∧ signL [c] = 0) ∨ (signL [c] = 1) := by
  have key : ∀ c : UInt8, signL [c] = 1 ∨ (c.toNat = 58 ∧ signL [c] = 0) ∨ (signL [c] = 0 ∧ c.toNat ≠ 58) := fun c => by
    by_cases h1 : signL [c] = 1
    · exact Or.inl h1
    · have h2 : signL [c] = 0 := by
        have := signIn_le signsL [c]
        have : signL [c] ≤ 1 := this
        omega
      by_cases h58 : c.toNat = 58
      · exact Or.inr (Or.inl ⟨h58, h2⟩)
      · exact Or.inr (Or.inr ⟨h2, h58⟩)
  rcases key c with k | k | ⟨k, k2⟩
  · exact Or.inr k
  · exact Or.inl k
  · exfalso
    apply h
    match t with
    | [] => exact k
    | d :: r =>
      simp only [signL, signsL, signIn, isPre1, isPre2', List.length] at k
      simp only [signL, signsL, signIn, isPre1, isPre2, List.length]
      have hne : ¬ (58 : UInt8) = c := fun e => k2 (by rw [← e]; rfl)
      by_cases e1 : 40 = c
      · subst e1; simp at k
      by_cases e2 : 41 = c
      · subst e2; simp at k
      by_cases e3 : 44 = c
      · subst e3; simp at k
      by_cases e4 : 46 = c
      · subst e4; simp at k
      by_cases e6 : 61 = c
      · subst e6; simp at k
      by_cases e5 : 33 = c
      · subst e5; simp at k
      by_cases e7 : 60 = c
      · subst e7; simp at k
      simp [e1, e2, e3, e4, e5, e6, e7, hne]
theorem sign_take (c : UInt8) (t : List UInt8) (n : Nat) (h : 2 ≤ n) : signL ((c :: t).take n) = signL (c :: t) := by
  obtain ⟨k, rfl⟩ : ∃ k, n = k + 2 := ⟨n - 2, by omega⟩
  match t with
  | [] => rfl
  | d :: r =>
    rw [List.take_succ_cons, List.take_succ_cons]
    simp only [signL, signsL, signIn, isPre1, isPre2]

/-- The first word of a text that is cut within it. -/
theorem size_cut (c : UInt8) (t : List UInt8) (n : Nat) (h1 : 1 ≤ n) (h : n ≤ sizeL (c :: t)) :
    sizeL ((c :: t).take n) = n ∨ (n = 1 ∧ 2 ≤ sizeL (c :: t) ∧ sizeL ((c :: t).take 1) = 0) := by
  obtain ⟨k, rfl⟩ : ∃ k, n = k + 1 := ⟨n - 1, by omega⟩
  have hk := kind_take c t k
  by_cases k1 : kindL (c :: t) = 1
  · have e : sizeL (c :: t) = runP nameN (c :: t) := by simp [sizeL, k1]
    left
    rw [sizeL, hk, if_pos k1]
    exact runP_cut _ _ _ (by omega)
  · by_cases k2 : kindL (c :: t) = 2
    · have e : sizeL (c :: t) = runP varN (c :: t) := by simp [sizeL, k2]
      left
      rw [sizeL, hk, if_neg k1, if_pos k2]
      exact runP_cut _ _ _ (by omega)
    · by_cases k3 : kindL (c :: t) = 3
      · have e : sizeL (c :: t) = numL (c :: t) := by simp [sizeL, k3]
        by_cases hc : k = 0 ∧ c.toNat = 45
        · right
          obtain ⟨rfl, hc⟩ := hc
          refine ⟨rfl, ?_, ?_⟩
          · rw [e]
            match t with
            | [] => simp [e, numL, hc] at h
            | d :: r =>
              by_cases h3 : d.toNat = 48
              · simp [e, numL, hc, h3] at h
              · by_cases h4 : digitN d.toNat = true
                · simp [numL, hc, h3, h4]
                · simp [e, numL, hc, h3, h4] at h
          · rw [sizeL, kind_take, if_neg k1, if_neg k2, if_pos k3]
            simp [numL, hc]
        · left
          rw [sizeL, hk, if_neg k1, if_neg k2, if_pos k3]
          exact num_cut c t (k + 1) (by omega) (by omega)
      · have e : sizeL (c :: t) = signL (c :: t) := by simp [sizeL, k1, k2, k3]
        have h2 := signL_two (c :: t)
        by_cases hk1 : 1 ≤ k
        · left
          have : k = 1 := by omega
          subst this
          rw [sizeL, hk, if_neg k1, if_neg k2, if_neg k3, sign_take c t 2 (by omega)]
          omega
        · have : k = 0 := by omega
          subst this
          have hs1 : (c :: t).take (0 + 1) = [c] := rfl
          rcases sign_one c t (by omega) with ⟨_, k0⟩ | k0
          · by_cases hs : sizeL (c :: t) = 1
            · exfalso
              rename_i hc58
              have hc : c = 58 := UInt8.toNat_inj.1 (show c.toNat = (58 : UInt8).toNat from hc58)
              subst hc
              rw [e] at hs
              match t with
              | [] => simp [signL, signsL, signIn, isPre1, isPre2'] at hs
              | d :: r =>
                simp only [signL, signsL, signIn, isPre1, isPre2, List.length] at hs
                by_cases hd : (45 : UInt8) = d
                · subst hd; simp at hs
                · simp [hd] at hs
            · right
              refine ⟨rfl, by omega, ?_⟩
              rw [sizeL, kind_take, if_neg k1, if_neg k2, if_neg k3, List.take_succ_cons, List.take_zero]
              exact k0
          · left
            rw [sizeL, hk, if_neg k1, if_neg k2, if_neg k3, hs1]
            exact k0
/-- The first word of a text that is cut behind it. -/
theorem size_beyond (c : UInt8) (t : List UInt8) (n : Nat) (h1 : 1 ≤ n) (h : sizeL (c :: t) ≤ n) (h0 : sizeL (c :: t) ≠ 0) : sizeL ((c :: t).take n) = sizeL (c :: t) := by
  obtain ⟨k, rfl⟩ : ∃ k, n = k + 1 := ⟨n - 1, by omega⟩
  have hk := kind_take c t k
  by_cases k1 : kindL (c :: t) = 1
  · have e : sizeL (c :: t) = runP nameN (c :: t) := by simp [sizeL, k1]
    rw [e, sizeL, hk, if_pos k1]
    exact runP_beyond _ _ _ (by omega)
  · by_cases k2 : kindL (c :: t) = 2
    · have e : sizeL (c :: t) = runP varN (c :: t) := by simp [sizeL, k2]
      rw [e, sizeL, hk, if_neg k1, if_pos k2]
      exact runP_beyond _ _ _ (by omega)
    · by_cases k3 : kindL (c :: t) = 3
      · have e : sizeL (c :: t) = numL (c :: t) := by simp [sizeL, k3]
        rw [e, sizeL, hk, if_neg k1, if_neg k2, if_pos k3]
        exact num_beyond _ _ (by omega) (Or.inr (Or.inr trivial)) (by omega) (by omega)
      · have e : sizeL (c :: t) = signL (c :: t) := by simp [sizeL, k1, k2, k3]
        rw [e, sizeL, hk, if_neg k1, if_neg k2, if_neg k3]
        by_cases hk1 : 1 ≤ k
        · exact sign_take c t (k + 1) (by omega)
        · have : k = 0 := by omega
          subst this
          rcases sign_one c t (by omega) with ⟨hc58, k0⟩ | k0
          · exfalso
            have hc : c = 58 := UInt8.toNat_inj.1 (show c.toNat = (58 : UInt8).toNat from hc58)
            subst hc
            have hs : signL (58 :: t) = 1 := by omega
            match t with
            | [] => simp [signL, signsL, signIn, isPre1, isPre2'] at hs
            | d :: r =>
              simp only [signL, signsL, signIn, isPre1, isPre2, List.length] at hs
              by_cases hd : (45 : UInt8) = d
              · subst hd; simp at hs
              · simp [hd] at hs
          · have hs1 : (c :: t).take (0 + 1) = [c] := rfl
            rw [hs1, k0]
            omega
/-- What begins no word begins none when it is cut. -/
theorem size_zero (c : UInt8) (t : List UInt8) (n : Nat) (h1 : 1 ≤ n) (h0 : sizeL (c :: t) = 0) : sizeL ((c :: t).take n) = 0 := by
  obtain ⟨k, rfl⟩ : ∃ k, n = k + 1 := ⟨n - 1, by omega⟩
  have hk := kind_take c t k
  by_cases k1 : kindL (c :: t) = 1
  · have e : sizeL (c :: t) = runP nameN (c :: t) := by simp [sizeL, k1]
    rw [sizeL, hk, if_pos k1, runP_beyond _ _ _ (by omega)]
    omega
  · by_cases k2 : kindL (c :: t) = 2
    · have e : sizeL (c :: t) = runP varN (c :: t) := by simp [sizeL, k2]
      rw [sizeL, hk, if_neg k1, if_pos k2, runP_beyond _ _ _ (by omega)]
      omega
    · by_cases k3 : kindL (c :: t) = 3
      · have e : sizeL (c :: t) = numL (c :: t) := by simp [sizeL, k3]
        rw [e] at h0
        rw [sizeL, hk, if_neg k1, if_neg k2, if_pos k3, List.take_succ_cons]
        by_cases c1 : c.toNat = 48
        · simp [numL, c1] at h0
        · by_cases c2 : c.toNat = 45
          · match t with
            | [] => simp [numL, c2]
            | d :: r =>
              cases k with
              | zero => simp [numL, c2]
              | succ k =>
                rw [List.take_succ_cons]
                by_cases h3 : d.toNat = 48
                · simp [numL, c2, h3]
                · by_cases h4 : digitN d.toNat = true
                  · simp [numL, c2, h3, h4] at h0
                  · simp [numL, c2, h3, h4]
          · have e : ∀ t, numL (c :: t) = runP digitN (c :: t) := fun t => by simp only [numL, if_neg c1, if_neg c2]
            rw [e] at h0
            rw [e]
            have := runP_beyond digitN (c :: t) (k + 1) (by omega)
            rw [List.take_succ_cons] at this
            omega
      · have e : sizeL (c :: t) = signL (c :: t) := by simp [sizeL, k1, k2, k3]
        rw [e] at h0
        rw [sizeL, hk, if_neg k1, if_neg k2, if_neg k3]
        by_cases hk1 : 1 ≤ k
        · rw [sign_take c t (k + 1) (by omega)]; exact h0
        · have : k = 0 := by omega
          subst this
          have hs1 : (c :: t).take (0 + 1) = [c] := rfl
          rw [hs1]
          by_cases hz : signL [c] = 0
          · exact hz
          · exfalso
            apply hz
            match t with
            | [] => exact h0
            | d :: r =>
              simp only [signL, signsL, signIn, isPre1, isPre2, List.length] at h0
              simp only [signL, signsL, signIn, isPre1, isPre2', List.length]
              by_cases e1 : 40 = c
              · subst e1; simp at h0
              by_cases e2 : 41 = c
              · subst e2; simp at h0
              by_cases e3 : 44 = c
              · subst e3; simp at h0
              by_cases e4 : 46 = c
              · subst e4; simp at h0
              by_cases e6 : 61 = c
              · subst e6; simp at h0
              by_cases e5 : 33 = c
              · subst e5
                by_cases f : 61 = d
                · subst f; simp at h0
                · have f' : (61 == d) = false := by simpa using f
                  simp [f'] at h0
              by_cases e7 : 60 = c
              · subst e7
                by_cases f : 61 = d
                · subst f; simp at h0
                · have f' : (61 == d) = false := by simpa using f
                  simp [f'] at h0
              simp [e1, e2, e3, e4, e5, e6, e7]

end Go.Proofs.YtcfhpodpkficaaaGreatDoor.Ft
namespace Go.Proofs.YtcfhpodpkficaaaGreatDoor.Ft
open Lx

/-- How long it is. -/
def gl (L : List UInt8) : Nat :=
  match L with
  | [] => 0
  | c :: t =>
    if blankN c.toNat = true then gl t + 1
    else if c.toNat = 37 then gl (t.drop (lineL t)) + (1 + lineL t)
    else if sizeL (c :: t) = 0 then 0
    else if 16 < sizeL (c :: t) then 16
    else gl (t.drop (sizeL (c :: t) - 1)) + sizeL (c :: t)
  termination_by L.length
  decreasing_by all_goals (simp <;> omega)
theorem gl_cons (c : UInt8) (t : List UInt8) : gl (c :: t) = if blankN c.toNat = true then gl t + 1
    else if c.toNat = 37 then gl (t.drop (lineL t)) + (1 + lineL t)
    else if sizeL (c :: t) = 0 then 0
    else if 16 < sizeL (c :: t) then 16
    else gl (t.drop (sizeL (c :: t) - 1)) + sizeL (c :: t) := by rw [gl]
theorem gl_nil : gl [] = 0 := by rw [gl]
/-- The word that is too long, its first sixteen bytes, if that is the fault. -/
def ov (L : List UInt8) (a : Nat) : List Wd :=
  match L with
  | [] => []
  | c :: t =>
    if blankN c.toNat = true then ov t (a + 1)
    else if c.toNat = 37 then ov (t.drop (lineL t)) (a + 1 + lineL t)
    else if sizeL (c :: t) = 0 then []
    else if 16 < sizeL (c :: t) then [(kindL (c :: t), (c :: t).take 16, a)]
    else ov (t.drop (sizeL (c :: t) - 1)) (a + sizeL (c :: t))
  termination_by L.length
  decreasing_by all_goals (simp <;> omega)
theorem ov_cons (c : UInt8) (t : List UInt8) (a : Nat) : ov (c :: t) a = if blankN c.toNat = true then ov t (a + 1)
    else if c.toNat = 37 then ov (t.drop (lineL t)) (a + 1 + lineL t)
    else if sizeL (c :: t) = 0 then []
    else if 16 < sizeL (c :: t) then [(kindL (c :: t), (c :: t).take 16, a)]
    else ov (t.drop (sizeL (c :: t) - 1)) (a + sizeL (c :: t)) := by rw [ov]

theorem scan_blank' (c : UInt8) (t : List UInt8) (a : Nat) (h : blankN c.toNat = true) : scanL (c :: t) a = scanL t (a + 1) := by rw [scanL_cons, if_pos h]
theorem line_cut (t : List UInt8) (n : Nat) (h : n ≤ lineL t) : lineL (t.take n) = n := runP_cut _ _ _ h
theorem line_beyond (t : List UInt8) (n : Nat) (h : lineL t ≤ n) : lineL (t.take n) = lineL t := runP_beyond _ _ _ h
theorem scan_note' (c : UInt8) (t : List UInt8) (a : Nat) (h : c.toNat = 37) : scanL (c :: t) a = scanL (t.drop (lineL t)) (a + 1 + lineL t) := by
  rw [scanL_cons, if_neg (by rw [h]; decide), if_pos h]
theorem scan_word' (c : UInt8) (t : List UInt8) (a : Nat) (hb : ¬ blankN c.toNat = true) (hn : ¬ c.toNat = 37) (h0 : sizeL (c :: t) ≠ 0) (h16 : ¬ 16 < sizeL (c :: t)) :
    scanL (c :: t) a = (scanL (t.drop (sizeL (c :: t) - 1)) (a + sizeL (c :: t))).map (fun r => (kindL (c :: t), (c :: t).take (sizeL (c :: t)), a) :: r) := by
  rw [scanL_cons, if_neg hb, if_neg hn, if_neg (by omega)]
theorem scan_bad' (c : UInt8) (t : List UInt8) (a : Nat) (hb : ¬ blankN c.toNat = true) (hn : ¬ c.toNat = 37) (h : sizeL (c :: t) = 0 ∨ 16 < sizeL (c :: t)) : scanL (c :: t) a = none := by
  rw [scanL_cons, if_neg hb, if_neg hn, if_pos h]

theorem none_any (n : Nat) : ∀ (L : List UInt8) (a b : Nat), L.length ≤ n → scanL L a = none → scanL L b = none := by
  induction n with
  | zero =>
    intro L a b hl h
    obtain rfl : L = [] := by cases L; rfl; simp at hl
    rw [scanL_nil] at h
    cases h
  | succ n ih =>
    intro L a b hl h
    match L with
    | [] =>
      rw [scanL_nil] at h
      cases h
    | c :: t =>
      simp only [List.length_cons] at hl
      rw [scanL_cons] at h ⊢
      by_cases hb : blankN c.toNat = true
      · rw [if_pos hb] at h ⊢
        exact ih t _ _ (by omega) h
      · rw [if_neg hb] at h ⊢
        by_cases hn : c.toNat = 37
        · rw [if_pos hn] at h ⊢
          exact ih _ _ _ (by rw [List.length_drop]; omega) h
        · rw [if_neg hn] at h ⊢
          by_cases hs : sizeL (c :: t) = 0 ∨ 16 < sizeL (c :: t)
          · rw [if_pos hs]
          · rw [if_neg hs] at h ⊢
            rw [Option.map_eq_none_iff] at h ⊢
            exact ih _ _ _ (by rw [List.length_drop]; omega) h
theorem drop_take' (t : List UInt8) (n k : Nat) : (t.take n).drop k = (t.drop k).take (n - k) := List.drop_take

/-- Which beginnings have a fault, and the words of the longest that has none. -/
theorem cut_all (N : Nat) : ∀ (L : List UInt8), L.length ≤ N → (∃ a, scanL L a = none) →
    gl L < L.length ∧
    (∀ n a, n < gl L → (scanL (L.take n) a).isSome = true ∨ (scanL (L.take (n + 1)) a).isSome = true) ∧
    (∀ n a, gl L < n → scanL (L.take n) a = none) ∧
    (∀ a, scanL (L.take (gl L)) a = some (frontL L a ++ ov L a)) := by
  induction N with
  | zero =>
    intro L hl ⟨a, hn⟩
    obtain rfl : L = [] := by cases L; rfl; simp at hl
    rw [scanL_nil] at hn
    cases hn
  | succ N ih =>
    intro L hl ⟨a0, hnone⟩
    match L with
    | [] =>
      rw [scanL_nil] at hnone
      cases hnone
    | c :: t =>
      simp only [List.length_cons] at hl ⊢
      by_cases hb : blankN c.toNat = true
      · rw [scan_blank' c t a0 hb] at hnone
        obtain ⟨g1, g2, g3, g4⟩ := ih t (by omega) ⟨_, hnone⟩
        have eg : gl (c :: t) = gl t + 1 := by rw [gl_cons, if_pos hb]
        have eo : ∀ a, ov (c :: t) a = ov t (a + 1) := fun a => by rw [ov_cons, if_pos hb]
        have ef : ∀ a, frontL (c :: t) a = frontL t (a + 1) := fun a => by rw [frontL_cons, if_pos hb]
        rw [eg]
        refine ⟨by omega, fun n a hn => ?_, fun n a hn => ?_, fun a => ?_⟩
        · cases n with
          | zero => left; simp [scanL_nil]
          | succ n =>
            rw [List.take_succ_cons, List.take_succ_cons, scan_blank' _ _ _ hb, scan_blank' _ _ _ hb]
            exact g2 n (a + 1) (by omega)
        · obtain ⟨k, rfl⟩ : ∃ k, n = k + 1 := ⟨n - 1, by omega⟩
          rw [List.take_succ_cons, scan_blank' _ _ _ hb]
          exact g3 k (a + 1) (by omega)
        · rw [List.take_succ_cons, scan_blank' _ _ _ hb, g4, ef, eo]
      · by_cases h37 : c.toNat = 37
        · rw [scan_note' c t a0 h37] at hnone
          obtain ⟨g1, g2, g3, g4⟩ := ih (t.drop (lineL t)) (by rw [List.length_drop]; omega) ⟨_, hnone⟩
          rw [List.length_drop] at g1
          have hll : lineL t ≤ t.length := runP_le _ _
          have eg : gl (c :: t) = gl (t.drop (lineL t)) + (1 + lineL t) := by rw [gl_cons, if_neg hb, if_pos h37]
          have eo : ∀ a, ov (c :: t) a = ov (t.drop (lineL t)) (a + 1 + lineL t) := fun a => by rw [ov_cons, if_neg hb, if_pos h37]
          have ef : ∀ a, frontL (c :: t) a = frontL (t.drop (lineL t)) (a + 1 + lineL t) := fun a => by rw [frontL_cons, if_neg hb, if_pos h37]
          -- behind the line
          have far : ∀ n a, lineL t ≤ n → scanL ((c :: t).take (n + 1)) a = scanL ((t.drop (lineL t)).take (n - lineL t)) (a + 1 + lineL t) := fun n a hn => by
            rw [List.take_succ_cons, scan_note' _ _ _ h37, line_beyond t n hn, drop_take']
          have near : ∀ n a, n ≤ lineL t → scanL ((c :: t).take (n + 1)) a = some [] := fun n a hn => by
            rw [List.take_succ_cons, scan_note' _ _ _ h37, line_cut t n hn, drop_take', Nat.sub_self, List.take_zero, scanL_nil]
          rw [eg]
          refine ⟨by omega, fun n a hn => ?_, fun n a hn => ?_, fun a => ?_⟩
          · cases n with
            | zero => left; simp [scanL_nil]
            | succ n =>
              by_cases hnl : n ≤ lineL t
              · left; rw [near n a hnl]; rfl
              · rw [far n a (by omega), far (n + 1) a (by omega), show n + 1 - lineL t = (n - lineL t) + 1 by omega]
                exact g2 _ _ (by omega)
          · obtain ⟨k, rfl⟩ : ∃ k, n = k + 1 := ⟨n - 1, by omega⟩
            rw [far k a (by omega)]
            exact g3 _ _ (by omega)
          · rw [show gl (t.drop (lineL t)) + (1 + lineL t) = (gl (t.drop (lineL t)) + lineL t) + 1 by omega, far _ _ (by omega), Nat.add_sub_cancel, g4, ef, eo]
        · by_cases h0 : sizeL (c :: t) = 0
          · have eg : gl (c :: t) = 0 := by rw [gl_cons, if_neg hb, if_neg h37, if_pos h0]
            have eo : ∀ a, ov (c :: t) a = [] := fun a => by rw [ov_cons, if_neg hb, if_neg h37, if_pos h0]
            have ef : ∀ a, frontL (c :: t) a = [] := fun a => by rw [frontL_cons, if_neg hb, if_neg h37, if_pos (Or.inl h0)]
            rw [eg]
            refine ⟨by omega, fun n a hn => absurd hn (by omega), fun n a hn => ?_, fun a => ?_⟩
            · have hz := size_zero c t n (by omega) h0
              obtain ⟨k, rfl⟩ : ∃ k, n = k + 1 := ⟨n - 1, by omega⟩
              rw [List.take_succ_cons] at hz ⊢
              exact scan_bad' _ _ _ hb h37 (Or.inl hz)
            · rw [List.take_zero, scanL_nil, ef, eo]
              rfl
          · have hsl := sizeL_le (c :: t)
            simp only [List.length_cons] at hsl
            -- within the first word
            have near : ∀ n a, 1 ≤ n → n ≤ sizeL (c :: t) → n ≤ 16 → (scanL ((c :: t).take n) a).isSome = true ∨ (n = 1 ∧ 2 ≤ sizeL (c :: t)) := fun n a h1 h2 h3 => by
              rcases size_cut c t n h1 h2 with hs | ⟨hs, h2', _⟩
              · left
                obtain ⟨k, rfl⟩ : ∃ k, n = k + 1 := ⟨n - 1, by omega⟩
                rw [List.take_succ_cons] at hs ⊢
                rw [scan_word' _ _ _ hb h37 (by omega) (by omega), hs, Nat.add_sub_cancel, drop_take', Nat.sub_self, List.take_zero, scanL_nil]
                rfl
              · right; exact ⟨hs, h2'⟩
            have exact16 : ∀ n a, 1 ≤ n → n ≤ sizeL (c :: t) → n ≤ 16 → (2 ≤ n ∨ sizeL (c :: t) = 1) → scanL ((c :: t).take n) a = some [(kindL (c :: t), (c :: t).take n, a)] := fun n a h1 h2 h3 h4 => by
              rcases size_cut c t n h1 h2 with hs | ⟨hs, h2', _⟩
              · obtain ⟨k, rfl⟩ : ∃ k, n = k + 1 := ⟨n - 1, by omega⟩
                have hk := kind_take c t k
                rw [List.take_succ_cons] at hs hk ⊢
                rw [scan_word' _ _ _ hb h37 (by omega) (by omega), hs, Nat.add_sub_cancel, drop_take', Nat.sub_self, List.take_zero, scanL_nil, hk]
                simp [List.take_take]
              · omega
            by_cases h16 : 16 < sizeL (c :: t)
            · have eg : gl (c :: t) = 16 := by rw [gl_cons, if_neg hb, if_neg h37, if_neg h0, if_pos h16]
              have eo : ∀ a, ov (c :: t) a = [(kindL (c :: t), (c :: t).take 16, a)] := fun a => by rw [ov_cons, if_neg hb, if_neg h37, if_neg h0, if_pos h16]
              have ef : ∀ a, frontL (c :: t) a = [] := fun a => by rw [frontL_cons, if_neg hb, if_neg h37, if_pos (Or.inr h16)]
              rw [eg]
              refine ⟨by omega, fun n a hn => ?_, fun n a hn => ?_, fun a => ?_⟩
              · cases n with
                | zero => left; simp [scanL_nil]
                | succ n =>
                  rcases near (n + 1) a (by omega) (by omega) (by omega) with h | ⟨h1, _⟩
                  · exact Or.inl h
                  · right
                    rw [exact16 (n + 1 + 1) a (by omega) (by omega) (by omega) (by omega)]
                    rfl
              · have hbig : 16 < sizeL ((c :: t).take n) := by
                  by_cases hle : n ≤ sizeL (c :: t)
                  · rcases size_cut c t n (by omega) hle with hs | ⟨hs, _⟩
                    · omega
                    · omega
                  · rw [size_beyond c t n (by omega) (by omega) h0]
                    exact h16
                obtain ⟨k, rfl⟩ : ∃ k, n = k + 1 := ⟨n - 1, by omega⟩
                rw [List.take_succ_cons] at hbig ⊢
                exact scan_bad' _ _ _ hb h37 (Or.inr hbig)
              · rw [exact16 16 a (by omega) (by omega) (by omega) (by omega), ef, eo]
                rfl
            · rw [scan_word' c t a0 hb h37 h0 h16, Option.map_eq_none_iff] at hnone
              obtain ⟨g1, g2, g3, g4⟩ := ih (t.drop (sizeL (c :: t) - 1)) (by rw [List.length_drop]; omega) ⟨_, hnone⟩
              rw [List.length_drop] at g1
              have eg : gl (c :: t) = gl (t.drop (sizeL (c :: t) - 1)) + sizeL (c :: t) := by rw [gl_cons, if_neg hb, if_neg h37, if_neg h0, if_neg h16]
              have eo : ∀ a, ov (c :: t) a = ov (t.drop (sizeL (c :: t) - 1)) (a + sizeL (c :: t)) := fun a => by rw [ov_cons, if_neg hb, if_neg h37, if_neg h0, if_neg h16]
              have ef : ∀ a, frontL (c :: t) a = (kindL (c :: t), (c :: t).take (sizeL (c :: t)), a) :: frontL (t.drop (sizeL (c :: t) - 1)) (a + sizeL (c :: t)) := fun a => by rw [frontL_cons, if_neg hb, if_neg h37, if_neg (by omega)]
              have far : ∀ n a, sizeL (c :: t) ≤ n → scanL ((c :: t).take n) a = (scanL ((t.drop (sizeL (c :: t) - 1)).take (n - sizeL (c :: t))) (a + sizeL (c :: t))).map (fun r => (kindL (c :: t), (c :: t).take (sizeL (c :: t)), a) :: r) := fun n a hn => by
                have hs := size_beyond c t n (by omega) hn h0
                obtain ⟨k, rfl⟩ : ∃ k, n = k + 1 := ⟨n - 1, by omega⟩
                have hk := kind_take c t k
                have htt : ((c :: t).take (k + 1)).take (sizeL (c :: t)) = (c :: t).take (sizeL (c :: t)) := by rw [List.take_take, Nat.min_eq_left hn]
                rw [List.take_succ_cons] at hs hk htt ⊢
                rw [scan_word' _ _ _ hb h37 (by omega) (by omega), hs, hk, htt, drop_take', show k - (sizeL (c :: t) - 1) = k + 1 - sizeL (c :: t) by omega]
              rw [eg]
              refine ⟨by omega, fun n a hn => ?_, fun n a hn => ?_, fun a => ?_⟩
              · cases n with
                | zero => left; simp [scanL_nil]
                | succ n =>
                  by_cases hle : n + 1 < sizeL (c :: t)
                  · rcases near (n + 1) a (by omega) (by omega) (by omega) with h | ⟨h1, _⟩
                    · exact Or.inl h
                    · right
                      rw [exact16 (n + 1 + 1) a (by omega) (by omega) (by omega) (by omega)]
                      rfl
                  · rw [far (n + 1) a (by omega), far (n + 1 + 1) a (by omega), show n + 1 + 1 - sizeL (c :: t) = (n + 1 - sizeL (c :: t)) + 1 by omega, Option.isSome_map, Option.isSome_map]
                    exact g2 _ _ (by omega)
              · rw [far n a (by omega), g3 _ _ (by omega)]
                rfl
              · rw [far _ a (by omega), Nat.add_sub_cancel, g4, ef, eo]
                rfl
end Go.Proofs.YtcfhpodpkficaaaGreatDoor.Ft
namespace Go.Proofs.YtcfhpodpkficaaaGreatDoor.Ft
open Lx

theorem front_pos (N : Nat) : ∀ (L : List UInt8) (a : Nat), L.length ≤ N → (∀ w ∈ frontL L a, a ≤ w.2.2) ∧ (∀ w ∈ ov L a, a ≤ w.2.2) := by
  induction N with
  | zero =>
    intro L a hl
    obtain rfl : L = [] := by cases L; rfl; simp at hl
    rw [frontL_nil, show ov [] a = [] by rw [ov]]
    simp
  | succ N ih =>
    intro L a hl
    match L with
    | [] =>
      rw [frontL_nil, show ov [] a = [] by rw [ov]]
      simp
    | c :: t =>
      simp only [List.length_cons] at hl
      rw [frontL_cons, ov_cons]
      by_cases hb : blankN c.toNat = true
      · rw [if_pos hb, if_pos hb]
        have := ih t (a + 1) (by omega)
        exact ⟨fun w hw => by have := this.1 w hw; omega, fun w hw => by have := this.2 w hw; omega⟩
      · rw [if_neg hb, if_neg hb]
        by_cases h37 : c.toNat = 37
        · rw [if_pos h37, if_pos h37]
          have := ih (t.drop (lineL t)) (a + 1 + lineL t) (by rw [List.length_drop]; omega)
          exact ⟨fun w hw => by have := this.1 w hw; omega, fun w hw => by have := this.2 w hw; omega⟩
        · rw [if_neg h37, if_neg h37]
          by_cases h0 : sizeL (c :: t) = 0
          · rw [if_pos (Or.inl h0), if_pos h0]
            simp
          · by_cases h16 : 16 < sizeL (c :: t)
            · rw [if_pos (Or.inr h16), if_neg h0, if_pos h16]
              simp
            · rw [if_neg (by omega), if_neg h0, if_neg h16]
              have := ih (t.drop (sizeL (c :: t) - 1)) (a + sizeL (c :: t)) (by rw [List.length_drop]; omega)
              refine ⟨fun w hw => ?_, fun w hw => by have := this.2 w hw; omega⟩
              rcases List.mem_cons.1 hw with rfl | hw
              · exact Nat.le_refl _
              · have := this.1 w hw
                omega

theorem runP_all' (p : Nat → Bool) (L : List UInt8) (h : ∀ c ∈ L, p c.toNat = true) : runP p L = L.length := by
  induction L with
  | nil => rfl
  | cons c t ih => rw [runP, if_pos (h c (by simp)), ih (fun d hd => h d (by simp [hd])), List.length_cons]
theorem runP_mem' (p : Nat → Bool) (L : List UInt8) : ∀ c ∈ L.take (runP p L), p c.toNat = true := by
  induction L with
  | nil => simp
  | cons d t ih =>
    by_cases h : p d.toNat = true
    · have e : runP p (d :: t) = runP p t + 1 := by simp [runP, h]
      rw [e, List.take_succ_cons]
      intro c hc
      rcases List.mem_cons.1 hc with rfl | hc
      · exact h
      · exact ih c hc
    · have e : runP p (d :: t) = 0 := by simp [runP, h]
      rw [e]
      simp
theorem runP_stop (p : Nat → Bool) (X : List UInt8) (c : UInt8) (h : ∀ d ∈ X, p d.toNat = true) (hc : p c.toNat = false) : runP p (X ++ [c]) = X.length := by
  induction X with
  | nil => simp [runP, hc]
  | cons d t ih => rw [List.cons_append, runP, if_pos (h d (by simp)), ih (fun e he => h e (by simp [he])), List.length_cons]
theorem runP_next (p : Nat → Bool) (L : List UInt8) (c : UInt8) (r : List UInt8) (n : Nat) (h : runP p L = n) (hd : L.drop n = c :: r) : p c.toNat = false := by
  induction L generalizing n with
  | nil => simp at hd
  | cons d t ih =>
    by_cases hp : p d.toNat = true
    · have e : runP p (d :: t) = runP p t + 1 := by simp [runP, hp]
      obtain ⟨k, rfl⟩ : ∃ k, n = k + 1 := ⟨n - 1, by omega⟩
      exact ih k (by omega) (by simpa using hd)
    · have e : runP p (d :: t) = 0 := by simp [runP, hp]
      have : n = 0 := by omega
      subst this
      simp at hd
      rw [← hd.1]
      simpa using hp

/-- A word of sixteen bytes, its last left out, another byte in its place. -/
theorem size_swap (c : UInt8) (t : List UInt8) (d : UInt8) (n : Nat) (hn : sizeL (c :: t) = n) (h16 : 16 ≤ n) :
    (∀ r, (c :: t).drop 16 = d :: r → 16 < n → sizeL ((c :: t).take 15 ++ [d]) = 16) ∧ (∀ r, (c :: t).drop 16 = d :: r → n = 16 → sizeL ((c :: t).take 15 ++ [d]) = 15) := by
  have hx : ∀ y, kindL ((c :: t).take 15 ++ y) = kindL (c :: t) := fun y => by simp [kindL]
  have hlen : ∀ r, (c :: t).drop 16 = d :: r → 16 < (c :: t).length := fun r hr => by
    have := congrArg List.length hr
    rw [List.length_drop] at this
    simp only [List.length_cons] at this ⊢
    omega
  have hl15 : ∀ r, (c :: t).drop 16 = d :: r → ((c :: t).take 15).length = 15 := fun r hr => by
    have := hlen r hr
    rw [List.length_take]
    omega
  -- a run of p
  have run : ∀ p : Nat → Bool, runP p (c :: t) = n → ∀ r, (c :: t).drop 16 = d :: r → (16 < n → runP p ((c :: t).take 15 ++ [d]) = 16) ∧ (n = 16 → runP p ((c :: t).take 15 ++ [d]) = 15) := fun p hp r hr => by
    have hm := runP_mem' p (c :: t)
    rw [hp] at hm
    have h15 : ∀ e ∈ (c :: t).take 15, p e.toNat = true := fun e he => hm e (by
      have : (c :: t).take 15 = ((c :: t).take n).take 15 := by rw [List.take_take, Nat.min_eq_left (by omega)]
      rw [this] at he
      exact List.mem_of_mem_take he)
    refine ⟨fun hlt => ?_, fun he => ?_⟩
    · have hd : p d.toNat = true := hm d (by
        have e : (c :: t).take n = (c :: t).take 16 ++ ((c :: t).drop 16).take (n - 16) := by
          rw [← List.take_add, show 16 + (n - 16) = n by omega]
        rw [e, hr]
        obtain ⟨k, hk⟩ : ∃ k, n - 16 = k + 1 := ⟨n - 17, by omega⟩
        rw [hk, List.take_succ_cons]
        simp)
      rw [runP_all' p _ (fun e he => by
        rcases List.mem_append.1 he with he | he
        · exact h15 e he
        · obtain rfl : e = d := by simpa using he
          exact hd), List.length_append, hl15 r hr]
      rfl
    · have hd := runP_next p (c :: t) d r 16 (by omega) hr
      rw [runP_stop p _ d h15 hd, hl15 r hr]
  by_cases k1 : kindL (c :: t) = 1
  · have e : runP nameN (c :: t) = n := by rw [← hn]; simp [sizeL, k1]
    have es : sizeL ((c :: t).take 15 ++ [d]) = runP nameN ((c :: t).take 15 ++ [d]) := by rw [sizeL, hx, if_pos k1]
    rw [es]
    exact ⟨fun r hr hlt => (run _ e r hr).1 hlt, fun r hr he => (run _ e r hr).2 he⟩
  · by_cases k2 : kindL (c :: t) = 2
    · have e : runP varN (c :: t) = n := by rw [← hn]; simp [sizeL, k2]
      have es : sizeL ((c :: t).take 15 ++ [d]) = runP varN ((c :: t).take 15 ++ [d]) := by rw [sizeL, hx, if_neg k1, if_pos k2]
      rw [es]
      exact ⟨fun r hr hlt => (run _ e r hr).1 hlt, fun r hr he => (run _ e r hr).2 he⟩
    · by_cases k3 : kindL (c :: t) = 3
      · have e : numL (c :: t) = n := by rw [← hn]; simp [sizeL, k3]
        have es : sizeL ((c :: t).take 15 ++ [d]) = numL ((c :: t).take 15 ++ [d]) := by rw [sizeL, hx, if_neg k1, if_neg k2, if_pos k3]
        rw [es]
        by_cases c1 : c.toNat = 48
        · simp [numL, c1] at e
          omega
        · by_cases c2 : c.toNat = 45
          · match t with
            | [] => simp [numL, c2] at e; omega
            | d2 :: t2 =>
              by_cases h3 : d2.toNat = 48
              · simp [numL, c2, h3] at e; omega
              · by_cases h4 : digitN d2.toNat = true
                · have e2 : runP digitN t2 + 2 = n := by rw [← e]; simp [numL, c2, h3, h4]
                  have en : numL ((c :: d2 :: t2).take 15 ++ [d]) = runP digitN (t2.take 13 ++ [d]) + 2 := by
                    show numL (c :: d2 :: (t2.take 13 ++ [d])) = _
                    simp only [numL, if_neg c1, if_pos c2, if_neg h3, if_pos h4]
                  rw [en]
                  have hm := runP_mem' digitN t2
                  have h13 : ∀ e ∈ t2.take 13, digitN e.toNat = true := fun e he => hm e (by
                    have : t2.take 13 = (t2.take (runP digitN t2)).take 13 := by rw [List.take_take, Nat.min_eq_left (by omega)]
                    rw [this] at he
                    exact List.mem_of_mem_take he)
                  have hl13 : (t2.take 13).length = 13 := by
                    have := runP_le digitN t2
                    rw [List.length_take]
                    omega
                  refine ⟨fun r hr hlt => ?_, fun r hr he => ?_⟩
                  · have hr2 : t2.drop 14 = d :: r := by simpa using hr
                    have hd : digitN d.toNat = true := hm d (by
                      have e : t2.take (runP digitN t2) = t2.take 14 ++ (t2.drop 14).take (runP digitN t2 - 14) := by
                        rw [← List.take_add, show 14 + (runP digitN t2 - 14) = runP digitN t2 by omega]
                      rw [e, hr2]
                      obtain ⟨k, hk⟩ : ∃ k, runP digitN t2 - 14 = k + 1 := ⟨runP digitN t2 - 15, by omega⟩
                      rw [hk, List.take_succ_cons]
                      simp)
                    rw [runP_all' digitN _ (fun e he => by
                      rcases List.mem_append.1 he with he | he
                      · exact h13 e he
                      · obtain rfl : e = d := by simpa using he
                        exact hd), List.length_append, hl13]
                    rfl
                  · have hr2 : t2.drop 14 = d :: r := by simpa using hr
                    have hd := runP_next digitN t2 d r 14 (by omega) hr2
                    rw [runP_stop digitN _ d h13 hd, hl13]
                · simp [numL, c2, h3, h4] at e; omega
          · have e0 : ∀ t, numL (c :: t) = runP digitN (c :: t) := fun t => by simp only [numL, if_neg c1, if_neg c2]
            have e1 : runP digitN (c :: t) = n := by rw [← e0]; exact e
            have e2 : numL ((c :: t).take 15 ++ [d]) = runP digitN ((c :: t).take 15 ++ [d]) := by
              rw [List.take_succ_cons, List.cons_append, e0]
            rw [e2]
            exact ⟨fun r hr hlt => (run _ e1 r hr).1 hlt, fun r hr he => (run _ e1 r hr).2 he⟩
      · have e : signL (c :: t) = n := by rw [← hn]; simp [sizeL, k1, k2, k3]
        have := signL_two (c :: t)
        omega

end Go.Proofs.YtcfhpodpkficaaaGreatDoor.Ft
namespace Go.Proofs.YtcfhpodpkficaaaGreatDoor.Ft
open Lx

/-- Fifteen bytes from the word's place on, and the byte behind the beginning. -/
def swp (L : List UInt8) (k : Nat) : List UInt8 := (L.drop k).take 15 ++ (L.drop (gl L)).take 1
theorem goes_on (N : Nat) : ∀ (L : List UInt8) (a : Nat), L.length ≤ N → (∃ b, scanL L b = none) →
    (ov L a = [] → ∀ w, (frontL L a).getLast? = some w → w.2.1.length = 16 → w.2.2 + 16 = a + gl L → scanL (swp L (w.2.2 - a)) 0 = none) ∧
    (∀ w, ov L a = [w] → w.2.1.length = 16 ∧ w.2.2 + 16 = a + gl L ∧ ∃ x, scanL (swp L (w.2.2 - a)) 0 = some [x]) ∧
    (ov L a = [] ∨ ∃ w, ov L a = [w]) := by
  induction N with
  | zero =>
    intro L a hl ⟨b, hn⟩
    obtain rfl : L = [] := by cases L; rfl; simp at hl
    rw [scanL_nil] at hn
    cases hn
  | succ N ih =>
    intro L a hl ⟨a0, hnone⟩
    match L with
    | [] =>
      rw [scanL_nil] at hnone
      cases hnone
    | c :: t =>
      simp only [List.length_cons] at hl
      -- behind a front of k bytes
      have shift : ∀ k (T : List UInt8), T = (c :: t).drop k → gl (c :: t) = gl T + k → ∀ j, swp (c :: t) (j + k) = swp T j := fun k T hT hg j => by
        unfold swp
        rw [hg, hT, List.drop_drop, List.drop_drop, Nat.add_comm k j, Nat.add_comm k]
      by_cases hb : blankN c.toNat = true
      · rw [scan_blank' c t a0 hb] at hnone
        obtain ⟨g1, g2, g3⟩ := ih t (a + 1) (by omega) ⟨_, hnone⟩
        have hp := front_pos _ t (a + 1) (Nat.le_refl _)
        have eg : gl (c :: t) = gl t + 1 := by rw [gl_cons, if_pos hb]
        have eo : ov (c :: t) a = ov t (a + 1) := by rw [ov_cons, if_pos hb]
        have ef : frontL (c :: t) a = frontL t (a + 1) := by rw [frontL_cons, if_pos hb]
        rw [eo, ef]
        refine ⟨fun h w hw h16 he => ?_, fun w hw => ?_, g3⟩
        · have := hp.1 w (List.mem_of_getLast? hw)
          rw [show w.2.2 - a = (w.2.2 - (a + 1)) + 1 by omega, shift 1 t rfl eg]
          exact g1 h w hw h16 (by omega)
        · have := hp.2 w (by rw [hw]; simp)
          obtain ⟨q1, q2, q3⟩ := g2 w hw
          refine ⟨q1, by omega, ?_⟩
          rw [show w.2.2 - a = (w.2.2 - (a + 1)) + 1 by omega, shift 1 t rfl eg]
          exact q3
      · by_cases h37 : c.toNat = 37
        · rw [scan_note' c t a0 h37] at hnone
          obtain ⟨g1, g2, g3⟩ := ih (t.drop (lineL t)) (a + 1 + lineL t) (by rw [List.length_drop]; omega) ⟨_, hnone⟩
          have hp := front_pos _ (t.drop (lineL t)) (a + 1 + lineL t) (Nat.le_refl _)
          have eg : gl (c :: t) = gl (t.drop (lineL t)) + (1 + lineL t) := by rw [gl_cons, if_neg hb, if_pos h37]
          have eo : ov (c :: t) a = ov (t.drop (lineL t)) (a + 1 + lineL t) := by rw [ov_cons, if_neg hb, if_pos h37]
          have ef : frontL (c :: t) a = frontL (t.drop (lineL t)) (a + 1 + lineL t) := by rw [frontL_cons, if_neg hb, if_pos h37]
          have ed : t.drop (lineL t) = (c :: t).drop (1 + lineL t) := by rw [Nat.add_comm, List.drop_succ_cons]
          rw [eo, ef]
          refine ⟨fun h w hw h16 he => ?_, fun w hw => ?_, g3⟩
          · have := hp.1 w (List.mem_of_getLast? hw)
            rw [show w.2.2 - a = (w.2.2 - (a + 1 + lineL t)) + (1 + lineL t) by omega, shift _ _ ed eg]
            exact g1 h w hw h16 (by omega)
          · have := hp.2 w (by rw [hw]; simp)
            obtain ⟨q1, q2, q3⟩ := g2 w hw
            refine ⟨q1, by omega, ?_⟩
            rw [show w.2.2 - a = (w.2.2 - (a + 1 + lineL t)) + (1 + lineL t) by omega, shift _ _ ed eg]
            exact q3
        · by_cases h0 : sizeL (c :: t) = 0
          · have eo : ov (c :: t) a = [] := by rw [ov_cons, if_neg hb, if_neg h37, if_pos h0]
            have ef : frontL (c :: t) a = [] := by rw [frontL_cons, if_neg hb, if_neg h37, if_pos (Or.inl h0)]
            rw [eo, ef]
            exact ⟨fun _ w hw => (by cases hw), fun w hw => (by cases hw), Or.inl rfl⟩
          · have hsl := sizeL_le (c :: t)
            by_cases h16 : 16 < sizeL (c :: t)
            · have eg : gl (c :: t) = 16 := by rw [gl_cons, if_neg hb, if_neg h37, if_neg h0, if_pos h16]
              have eo : ov (c :: t) a = [(kindL (c :: t), (c :: t).take 16, a)] := by rw [ov_cons, if_neg hb, if_neg h37, if_neg h0, if_pos h16]
              rw [eo]
              refine ⟨fun h => (by cases h), fun w hw => ?_, Or.inr ⟨_, rfl⟩⟩
              obtain rfl : (kindL (c :: t), (c :: t).take 16, a) = w := by simpa using hw
              refine ⟨by show ((c :: t).take 16).length = 16; rw [List.length_take]; omega, by rw [eg], ?_⟩
              obtain ⟨d, r, hr⟩ : ∃ d r, (c :: t).drop 16 = d :: r := by
                cases hd : (c :: t).drop 16 with
                | nil =>
                  have := congrArg List.length hd
                  rw [List.length_drop] at this
                  simp only [List.length_nil] at this
                  omega
                | cons d r => exact ⟨d, r, rfl⟩
              have hs := (size_swap c t d _ rfl (by omega)).1 r hr h16
              have es : swp (c :: t) (a - a) = (c :: t).take 15 ++ [d] := by
                unfold swp
                rw [eg, hr, Nat.sub_self]
                rfl
              rw [show ((kindL (c :: t), (c :: t).take 16, a) : Wd).2.2 = a from rfl, es]
              rw [List.take_succ_cons, List.cons_append] at hs ⊢
              have hl : (t.take 14 ++ [d]).length = 15 := by
                simp only [List.length_append, List.length_take, List.length_cons, List.length_nil] at hsl ⊢
                omega
              refine ⟨(kindL (c :: (t.take 14 ++ [d])), (c :: (t.take 14 ++ [d])).take 16, 0), ?_⟩
              rw [scan_word' _ _ _ hb h37 (by omega) (by omega), hs, List.drop_eq_nil_of_le (by omega), scanL_nil]
              rfl
            · rw [scan_word' c t a0 hb h37 h0 h16, Option.map_eq_none_iff] at hnone
              obtain ⟨g1, g2, g3⟩ := ih (t.drop (sizeL (c :: t) - 1)) (a + sizeL (c :: t)) (by rw [List.length_drop]; omega) ⟨_, hnone⟩
              have hp := front_pos _ (t.drop (sizeL (c :: t) - 1)) (a + sizeL (c :: t)) (Nat.le_refl _)
              have eg : gl (c :: t) = gl (t.drop (sizeL (c :: t) - 1)) + sizeL (c :: t) := by rw [gl_cons, if_neg hb, if_neg h37, if_neg h0, if_neg h16]
              have eo : ov (c :: t) a = ov (t.drop (sizeL (c :: t) - 1)) (a + sizeL (c :: t)) := by rw [ov_cons, if_neg hb, if_neg h37, if_neg h0, if_neg h16]
              have ef : frontL (c :: t) a = (kindL (c :: t), (c :: t).take (sizeL (c :: t)), a) :: frontL (t.drop (sizeL (c :: t) - 1)) (a + sizeL (c :: t)) := by rw [frontL_cons, if_neg hb, if_neg h37, if_neg (by omega)]
              have ed : t.drop (sizeL (c :: t) - 1) = (c :: t).drop (sizeL (c :: t)) := by
                obtain ⟨k, hk⟩ : ∃ k, sizeL (c :: t) = k + 1 := ⟨sizeL (c :: t) - 1, by omega⟩
                rw [hk, List.drop_succ_cons]
                rfl
              have hcut := cut_all _ (t.drop (sizeL (c :: t) - 1)) (Nat.le_refl _) ⟨_, hnone⟩
              rw [eo, ef]
              refine ⟨fun h w hw h16' he => ?_, fun w hw => ?_, g3⟩
              · generalize hT : t.drop (sizeL (c :: t) - 1) = T at *
                cases hF : frontL T (a + sizeL (c :: t)) with
                | cons y ys =>
                  rw [hF] at hw
                  have hw2 : (frontL T (a + sizeL (c :: t))).getLast? = some w := by
                    rw [hF]
                    rw [List.getLast?_cons_cons] at hw
                    exact hw
                  have := hp.1 w (List.mem_of_getLast? hw2)
                  rw [show w.2.2 - a = (w.2.2 - (a + sizeL (c :: t))) + sizeL (c :: t) by omega, shift _ _ ed eg]
                  exact g1 h w hw2 h16' (by omega)
                | nil =>
                  rw [hF] at hw
                  obtain rfl : (kindL (c :: t), (c :: t).take (sizeL (c :: t)), a) = w := by simpa using hw
                  have hn16 : sizeL (c :: t) = 16 := by
                    have : ((c :: t).take (sizeL (c :: t))).length = 16 := h16'
                    rw [List.length_take] at this
                    omega
                  have hg0 : gl T = 0 := by
                    have : a + 16 = a + gl (c :: t) := he
                    omega
                  match T, hg0 with
                  | [], _ =>
                    exfalso
                    rw [scanL_nil] at hnone
                    cases hnone
                  | d :: r, hg0 =>
                    have hb2 : ¬ blankN d.toNat = true := fun hb2 => by rw [gl_cons, if_pos hb2] at hg0; omega
                    have h372 : ¬ d.toNat = 37 := fun h372 => by rw [gl_cons, if_neg hb2, if_pos h372] at hg0; omega
                    have h02 : sizeL (d :: r) = 0 := by
                      rw [gl_cons, if_neg hb2, if_neg h372] at hg0
                      by_cases h02 : sizeL (d :: r) = 0
                      · exact h02
                      · rw [if_neg h02] at hg0
                        split at hg0
                        · omega
                        · omega
                    have hr : (c :: t).drop 16 = d :: r := by rw [← hn16, ← ed]
                    have hs := (size_swap c t d _ rfl (by omega)).2 r hr hn16
                    have es : swp (c :: t) (a - a) = (c :: t).take 15 ++ [d] := by
                      unfold swp
                      rw [eg, hg0, hn16, Nat.zero_add, hr, Nat.sub_self]
                      rfl
                    have hz : sizeL [d] = 0 := size_zero d r 1 (by omega) h02
                    rw [show ((kindL (c :: t), (c :: t).take (sizeL (c :: t)), a) : Wd).2.2 = a from rfl, es]
                    rw [List.take_succ_cons, List.cons_append] at hs ⊢
                    have hl : (t.take 14).length = 14 := by
                      simp only [List.length_take, List.length_cons] at hsl ⊢
                      omega
                    have hd14 : (t.take 14 ++ [d]).drop (15 - 1) = [d] := List.drop_left' hl
                    rw [scan_word' _ _ _ hb h37 (by omega) (by omega), hs, hd14, scan_bad' d [] _ hb2 h372 (Or.inl hz)]
                    rfl
              · have := hp.2 w (by rw [hw]; simp)
                obtain ⟨q1, q2, q3⟩ := g2 w hw
                refine ⟨q1, by omega, ?_⟩
                rw [show w.2.2 - a = (w.2.2 - (a + sizeL (c :: t))) + sizeL (c :: t) by omega, shift _ _ ed eg]
                exact q3

theorem front_end (N : Nat) : ∀ (L : List UInt8) (a : Nat), L.length ≤ N → ∀ w ∈ frontL L a, w.2.2 + w.2.1.length ≤ a + gl L := by
  induction N with
  | zero =>
    intro L a hl
    obtain rfl : L = [] := by cases L; rfl; simp at hl
    rw [frontL_nil]
    simp
  | succ N ih =>
    intro L a hl
    match L with
    | [] =>
      rw [frontL_nil]
      simp
    | c :: t =>
      simp only [List.length_cons] at hl
      rw [frontL_cons, gl_cons]
      by_cases hb : blankN c.toNat = true
      · rw [if_pos hb, if_pos hb]
        intro w hw
        have := ih t (a + 1) (by omega) w hw
        omega
      · rw [if_neg hb, if_neg hb]
        by_cases h37 : c.toNat = 37
        · rw [if_pos h37, if_pos h37]
          intro w hw
          have := ih (t.drop (lineL t)) (a + 1 + lineL t) (by rw [List.length_drop]; omega) w hw
          omega
        · rw [if_neg h37, if_neg h37]
          by_cases h0 : sizeL (c :: t) = 0
          · rw [if_pos (Or.inl h0)]
            simp
          · by_cases h16 : 16 < sizeL (c :: t)
            · rw [if_pos (Or.inr h16)]
              simp
            · rw [if_neg (by omega), if_neg h0, if_neg h16]
              intro w hw
              rcases List.mem_cons.1 hw with rfl | hw
              · show a + ((c :: t).take (sizeL (c :: t))).length ≤ _
                rw [List.length_take]
                omega
              · have := ih (t.drop (sizeL (c :: t) - 1)) (a + sizeL (c :: t)) (by rw [List.length_drop]; omega) w hw
                omega

end Go.Proofs.YtcfhpodpkficaaaGreatDoor.Ft

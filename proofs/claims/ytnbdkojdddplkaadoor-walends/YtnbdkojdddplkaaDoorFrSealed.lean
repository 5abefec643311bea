/- Plain mathematics of seals: what is sealed is found again; a seal with a byte changed, or cut short, is none. No program is named here. -/
import Derived.Test.YtnbdkojdddplkaaDoorFrCrc
namespace Go.Proofs.YtnbdkojdddplkaaDoor.Fr

def at8 (bs : List UInt8) (j : Nat) : Int := ((bs.getD j 0).toNat : Int)
theorem at8_bd (bs : List UInt8) (j : Nat) : 0 ≤ at8 bs j ∧ at8 bs j ≤ 255 := by
  unfold at8
  have := UInt8.toNat_lt (bs.getD j 0)
  omega

def le4 (n : Nat) : List UInt8 := [UInt8.ofNat n, UInt8.ofNat (n / 256), UInt8.ofNat (n / 65536), UInt8.ofNat (n / 16777216)]
def wordN (bs : List UInt8) : Nat := (bs.getD 0 0).toNat + 256 * (bs.getD 1 0).toNat + 65536 * (bs.getD 2 0).toNat + 16777216 * (bs.getD 3 0).toNat
theorem le4_len (n : Nat) : (le4 n).length = 4 := rfl
theorem ofNat_mod (n : Nat) : (UInt8.ofNat n).toNat = n % 256 := by simp [UInt8.toNat_ofNat']
theorem wordN_lt (bs : List UInt8) : wordN bs < 4294967296 := by
  unfold wordN
  have h0 := byte_lt (bs.getD 0 0)
  have h1 := byte_lt (bs.getD 1 0)
  have h2 := byte_lt (bs.getD 2 0)
  have h3 := byte_lt (bs.getD 3 0)
  omega
theorem word_le4 (n : Nat) (h : n < 4294967296) (r : List UInt8) : wordN (le4 n ++ r) = n := by
  simp only [wordN, le4, List.cons_append, List.nil_append, List.getD, List.getElem?_cons_zero, List.getElem?_cons_succ, Option.getD_some, ofNat_mod]
  omega
theorem le4_word (bs : List UInt8) (h : 4 ≤ bs.length) : le4 (wordN bs) = bs.take 4 := by
  match bs, h with
  | a :: b :: c :: d :: r, _ =>
    have h0 := byte_lt a
    have h1 := byte_lt b
    have h2 := byte_lt c
    have h3 := byte_lt d
    simp only [wordN, le4, List.getD, List.getElem?_cons_zero, List.getElem?_cons_succ, Option.getD_some, List.take_succ_cons, List.take_zero, List.cons.injEq, and_true]
    refine ⟨?_, ?_, ?_, ?_⟩ <;> (apply UInt8.toNat_inj.1; rw [ofNat_mod]; omega)
theorem le4_inj {m n : Nat} (hm : m < 4294967296) (hn : n < 4294967296) (h : le4 m = le4 n) : m = n := by
  have := congrArg (fun l => wordN (l ++ [])) h
  simp only [word_le4 m hm, word_le4 n hn] at this
  exact this

def sealL (b : List UInt8) : List UInt8 := le4 b.length ++ (le4 (crc (le4 b.length ++ b)) ++ b)
theorem seal_len (b : List UInt8) : (sealL b).length = 8 + b.length := by simp [sealL, le4_len]; omega
theorem seal_drop (b : List UInt8) : (sealL b).drop 8 = b := by simp [sealL, le4]
theorem seal_take (b : List UInt8) : (sealL b).take 8 = le4 b.length ++ le4 (crc (le4 b.length ++ b)) := by simp [sealL, le4]

def bodyL (bs : List UInt8) : List UInt8 := (bs.drop 8).take (wordN bs)
def firstB (bs : List UInt8) : Option (List UInt8) :=
  if bs.length < 8 then none else if 65536 < wordN bs ∨ bs.length < 8 + wordN bs then none else
  if wordN (bs.drop 4) = crc (bs.take 4 ++ bodyL bs) then some (bodyL bs) else none

theorem first_short {bs : List UInt8} (h : bs.length < 8) : firstB bs = none := by rw [firstB, if_pos h]
theorem first_far {bs : List UInt8} (h : 65536 < wordN bs ∨ bs.length < 8 + wordN bs) : firstB bs = none := by
  unfold firstB
  split
  · rfl
  · rfl
theorem body_len {bs : List UInt8} (h : 8 + wordN bs ≤ bs.length) : (bodyL bs).length = wordN bs := by
  unfold bodyL; rw [List.length_take, List.length_drop]; omega
theorem first_some {bs b : List UInt8} (h : firstB bs = some b) : b.length ≤ 65536 ∧ bs = sealL b ++ bs.drop (8 + b.length) ∧ 8 + b.length ≤ bs.length := by
  unfold firstB at h
  by_cases h8 : bs.length < 8
  · rw [if_pos h8] at h; cases h
  rw [if_neg h8] at h
  by_cases hf : 65536 < wordN bs ∨ bs.length < 8 + wordN bs
  · rw [if_pos hf] at h; cases h
  rw [if_neg hf] at h
  by_cases hc : wordN (bs.drop 4) = crc (bs.take 4 ++ bodyL bs)
  · rw [if_pos hc] at h
    obtain rfl := Option.some.inj h
    have hl := body_len (bs := bs) (by omega)
    refine ⟨by omega, ?_, by omega⟩
    unfold sealL
    rw [hl, le4_word bs (by omega), ← hc, le4_word (bs.drop 4) (by rw [List.length_drop]; omega)]
    conv => lhs; rw [← List.take_append_drop 4 bs, ← List.take_append_drop 4 (bs.drop 4), List.drop_drop, ← List.take_append_drop (wordN bs) (bs.drop (4 + 4)), List.drop_drop]
    simp only [List.append_assoc]
    rfl
  · rw [if_neg hc] at h; cases h
theorem first_seal (b r : List UInt8) (h : b.length ≤ 65536) : firstB (sealL b ++ r) = some b := by
  have hw : wordN (sealL b ++ r) = b.length := by
    unfold sealL; rw [List.append_assoc]; exact word_le4 _ (by omega) _
  have hl : (sealL b ++ r).length = 8 + b.length + r.length := by rw [List.length_append, seal_len]
  have hb : bodyL (sealL b ++ r) = b := by
    unfold bodyL
    rw [hw, List.drop_append_of_le_length (by rw [seal_len]; omega), seal_drop, List.take_left]
  have h4 : (sealL b ++ r).take 4 = le4 b.length := by simp [sealL, le4]
  have hd : (sealL b ++ r).drop 4 = le4 (crc (le4 b.length ++ b)) ++ (b ++ r) := by simp [sealL, le4]
  unfold firstB
  rw [if_neg (by omega), if_neg (by omega), hb, h4, hd, if_pos (word_le4 _ (crc_lt _) _)]

/-- Whether the seal at the beginning is whole, as by making it anew. -/
theorem first_made {bs : List UInt8} (h8 : ¬ bs.length < 8) (hf : ¬ (65536 < wordN bs ∨ bs.length < 8 + wordN bs)) :
    firstB bs = if sealL (bodyL bs) = bs.take (8 + wordN bs) then some (bodyL bs) else none := by
  have hl := body_len (bs := bs) (by omega)
  split
  · next e =>
    have : bs = sealL (bodyL bs) ++ bs.drop (8 + wordN bs) := by rw [e, List.take_append_drop]
    rw [this, first_seal _ _ (by omega), ← this]
  · next e =>
    cases hx : firstB bs with
    | none => rfl
    | some b =>
      exfalso
      have hb : b = bodyL bs := by
        unfold firstB at hx
        rw [if_neg h8, if_neg hf] at hx
        split at hx
        · exact (Option.some.inj hx).symm
        · cases hx
      obtain ⟨_, h2, _⟩ := first_some hx
      apply e
      rw [hb, hl] at h2
      have h3 := congrArg (List.take (8 + wordN bs)) h2
      rw [List.take_left' (by rw [seal_len, hl])] at h3
      exact h3.symm

def scanL (bs : List UInt8) : List (List UInt8) × Nat :=
  if _h : bs.length < 8 then ([], 0) else match firstB bs with
    | none => ([], 0)
    | some b => (b :: (scanL (bs.drop (8 + b.length))).1, 8 + b.length + (scanL (bs.drop (8 + b.length))).2)
  termination_by bs.length
  decreasing_by all_goals (rw [List.length_drop]; omega)
theorem scan_none {bs : List UInt8} (h : firstB bs = none) : scanL bs = ([], 0) := by
  unfold scanL
  rw [h]
  split <;> rfl
theorem scan_some {bs b : List UInt8} (h : firstB bs = some b) : scanL bs = (b :: (scanL (bs.drop (8 + b.length))).1, 8 + b.length + (scanL (bs.drop (8 + b.length))).2) := by
  have hl := (first_some h).2.2
  conv => lhs; unfold scanL
  rw [h, dif_neg (by omega)]
def openL (bs : List UInt8) : Option (List UInt8) := match firstB bs with
  | none => none
  | some b => if bs.length = 8 + b.length then some b else none
theorem open_seal (b : List UInt8) (h : b.length ≤ 65536) : openL (sealL b) = some b := by
  have := first_seal b [] h
  rw [List.append_nil] at this
  unfold openL
  rw [this]
  simp [seal_len]
theorem scan_nil : scanL [] = ([], 0) := scan_none (first_short (by simp))
/-- Just one seal. -/
theorem open_one (bs : List UInt8) : openL bs = if (scanL bs).1.length = 1 ∧ (scanL bs).2 = bs.length then (scanL bs).1.head? else none := by
  unfold openL
  cases h : firstB bs with
  | none => rw [scan_none h]; simp
  | some b =>
    have hl := (first_some h).2.2
    rw [scan_some h]
    simp only [List.length_cons, List.head?_cons]
    by_cases e : bs.length = 8 + b.length
    · rw [if_pos e]
      have : bs.drop (8 + b.length) = [] := List.drop_eq_nil_of_le (by omega)
      rw [this, scan_nil]
      simp [e]
    · rw [if_neg e, if_neg]
      rintro ⟨h1, h2⟩
      have h3 : (scanL (bs.drop (8 + b.length))).1 = [] := List.eq_nil_of_length_eq_zero (by omega)
      cases h4 : firstB (bs.drop (8 + b.length)) with
      | none => rw [scan_none h4] at h2; simp at h2; omega
      | some c => rw [scan_some h4] at h3; cases h3

theorem flip_none (b c : List UInt8) (j : Nat) (y : UInt8) (hj : j < (sealL b).length) (hy : (sealL b).getD j 0 ≠ y) (h : firstB ((sealL b).set j y) = some c) (hl : c.length = b.length) : False := by
  obtain ⟨_, h2, _⟩ := first_some h
  have he : (sealL b).set j y = sealL c := by
    rw [List.drop_eq_nil_of_le (by rw [List.length_set, seal_len]; omega), List.append_nil] at h2
    exact h2
  have hcb : c ≠ b := by
    rintro rfl
    apply hy
    have := congrArg (fun l => l.getD j 0) he
    simp only [List.getD, List.getElem?_set_self hj, Option.getD_some] at this
    rw [List.getD, ← this]
  have hd := congrArg (List.drop 8) he
  have ht := congrArg (List.take 8) he
  rw [List.drop_set, seal_drop, seal_drop] at hd
  by_cases h8 : j < 8
  · rw [if_pos h8] at hd
    exact hcb hd.symm
  · rw [if_neg h8] at hd
    rw [List.take_set_of_le (by omega), seal_take, seal_take, hl] at ht
    have hk := le4_inj (crc_lt _) (crc_lt _) (List.append_cancel_left ht)
    rw [seal_len] at hj
    have hjb : j - 8 < b.length := by omega
    rw [List.set_eq_take_append_cons_drop, if_pos hjb] at hd
    have hb : b = b.take (j - 8) ++ b[j - 8] :: b.drop (j - 8 + 1) := by rw [List.getElem_cons_drop, List.take_append_drop]
    rw [← hd] at hk
    generalize le4 b.length = A at hk
    conv at hk => lhs; rw [hb]
    rw [← List.append_assoc, ← List.append_assoc] at hk
    have hxy := crc_flip _ _ _ _ hk
    apply hcb
    rw [← hd, ← hxy, ← hb]

theorem cut_none (b : List UInt8) (k : Nat) (h : b.length ≤ 65536) (hk : k < (sealL b).length) : firstB ((sealL b).take k) = none := by
  rw [seal_len] at hk
  by_cases h8 : k < 8
  · exact first_short (by rw [List.length_take]; omega)
  · refine first_far (Or.inr ?_)
    have hw : wordN ((sealL b).take k) = b.length := by
      have : (sealL b).take k = le4 b.length ++ ((le4 (crc (le4 b.length ++ b)) ++ b).take (k - 4)) := by
        unfold sealL
        rw [List.take_append, le4_len, List.take_of_length_le (by rw [le4_len]; omega)]
      rw [this]
      exact word_le4 _ (by omega) _
    rw [hw, List.length_take, seal_len]
    omega
theorem cut_scan (a b : List UInt8) (k : Nat) (ha : a.length ≤ 65536) (h : b.length ≤ 65536) (hk : k < (sealL b).length) : scanL (sealL a ++ (sealL b).take k) = ([a], 8 + a.length) := by
  rw [scan_some (first_seal a _ ha), ← seal_len a, List.drop_left, scan_none (cut_none b k h hk)]
  simp
theorem cut_open (b : List UInt8) (k : Nat) (h : b.length ≤ 65536) (hk : k < (sealL b).length) : openL ((sealL b).take k) = none := by
  unfold openL
  rw [cut_none b k h hk]
end Go.Proofs.YtnbdkojdddplkaaDoor.Fr

/- Plain mathematics of the sum: a table of sixteen words does what eight single bits do; a byte that was changed changes the sum. No program is named here. Plain mathematics of seals: what is sealed is found again; a seal with a byte changed, or cut short, is none. No program is named here. What a slice of bytes is in memory, and what keeps it: laws on worlds alone, no walk. The walks of sumOn and Sum: the table of sixteen words does what the sum's mathematics says. What the row's listed variable gives the walks: the table's sixteen words. -/
import Derived.WalkKit
import Derived.Maps.AppendAt
import Derived.Laws.AppendOwnNone
import Derived.Laws.BytesArg
import Derived.Test.YtjndgekpdmlbiaaGreatDoorRows
import Derived.WalkSpells
import Derived.WalkLawsBesides
import Derived.Laws.BitsAllLaws
import Derived.Test.YtjndgekpdmlbiaaGreatDoorTie
import Derived.Test.YtjndgekpdmlbiaaGreatDoorCards
import Derived.ProofKit
import Derived.LaidMore
import Derived.OpenShut
import Derived.ShutString
import Derived.ChangeOld
import Derived.Below
import Derived.Stop.Joined
namespace Go.Proofs.YtjndgekpdmlbiaaGreatDoor.Fr

def tabL : List Nat := [0, 498536548, 997073096, 651767980, 1994146192, 1802195444, 1303535960, 1342533948, 3988292384, 4027552580, 3604390888, 3412177804, 2607071920, 2262029012, 2685067896, 3183342108]
def tab (i : Nat) : Nat := tabL.getD i 0
def bit1 (c : Nat) : Nat := if c % 2 = 1 then (c / 2) ^^^ 3988292384 else c / 2
def nib (c : Nat) : Nat := tab (c % 16) ^^^ (c / 16)

theorem tab_lt (i : Nat) : tab i < 4294967296 := by
  by_cases h : i < 16
  · revert i; decide
  · unfold tab
    rw [List.getD, List.getElem?_eq_none (by simp [tabL]; omega)]
    decide

theorem bit1_xor (a b : Nat) : bit1 (a ^^^ b) = bit1 a ^^^ bit1 b := by
  have h2 : (a ^^^ b) / 2 = a / 2 ^^^ b / 2 := Nat.xor_div_two
  have hm : (a ^^^ b) % 2 = (a + b) % 2 := by
    have := Nat.xor_mod_two_pow (a := a) (b := b) (n := 1)
    simp only [Nat.pow_one] at this
    rw [this]
    rcases Nat.mod_two_eq_zero_or_one a with h | h <;> rcases Nat.mod_two_eq_zero_or_one b with h' | h' <;> rw [h, h', Nat.add_mod, h, h'] <;> rfl
  unfold bit1
  rw [h2, hm]
  generalize a / 2 = x
  generalize b / 2 = y
  rcases Nat.mod_two_eq_zero_or_one a with h | h <;> rcases Nat.mod_two_eq_zero_or_one b with h' | h' <;> rw [Nat.add_mod, h, h'] <;> simp
  · ac_rfl
  · ac_rfl
  · rw [show x ^^^ 3988292384 ^^^ (y ^^^ 3988292384) = (x ^^^ y) ^^^ (3988292384 ^^^ 3988292384) by ac_rfl]; simp

theorem split16 (k i : Nat) (h : i < 16) : 16 * k + i = (16 * k) ^^^ i := by
  apply Nat.eq_of_testBit_eq
  intro j
  rw [Nat.testBit_xor, show 16 = 2 ^ 4 from rfl, Nat.testBit_two_pow_mul_add k (show i < 2 ^ 4 by omega), Nat.testBit_two_pow_mul]
  by_cases hj : j < 4
  · have : ¬ 4 ≤ j := by omega
    simp [hj, this]
  · have h1 : 4 ≤ j := by omega
    have h2 : i.testBit j = false := Nat.testBit_lt_two_pow (Nat.lt_of_lt_of_le (show i < 2 ^ 4 by omega) (Nat.pow_le_pow_right (by omega) h1))
    simp [hj, h1, h2]

theorem bit4_low : ∀ i, i < 16 → bit1 (bit1 (bit1 (bit1 i))) = tab i := by decide
theorem bit1_even (k : Nat) : bit1 (2 * k) = k := by unfold bit1; rw [if_neg (by omega)]; omega
theorem bit4_high (k : Nat) : bit1 (bit1 (bit1 (bit1 (16 * k)))) = k := by
  rw [show 16 * k = 2 * (8 * k) by omega, bit1_even, show 8 * k = 2 * (4 * k) by omega, bit1_even, show 4 * k = 2 * (2 * k) by omega, bit1_even, bit1_even]

/-- Four bits by the table. -/
theorem nib_bits (c : Nat) : nib c = bit1 (bit1 (bit1 (bit1 c))) := by
  have e : c = (16 * (c / 16)) ^^^ (c % 16) := by rw [← split16 _ _ (Nat.mod_lt _ (by omega))]; omega
  have hm := bit4_low (c % 16) (Nat.mod_lt _ (by omega))
  have hh := bit4_high (c / 16)
  unfold nib
  conv => rhs; rw [e]
  rw [bit1_xor, bit1_xor, bit1_xor, bit1_xor, hh, hm, Nat.xor_comm]

theorem xor_lt (a b : Nat) (ha : a < 4294967296) (hb : b < 4294967296) : a ^^^ b < 4294967296 := Nat.xor_lt_two_pow (n := 32) ha hb
theorem nib_lt (c : Nat) (h : c < 4294967296) : nib c < 4294967296 := xor_lt _ _ (tab_lt _) (by omega)
theorem bit1_lt (c : Nat) (h : c < 4294967296) : bit1 c < 4294967296 := by
  unfold bit1
  split
  · exact xor_lt _ _ (by omega) (by omega)
  · omega

theorem tab_top : ∀ i, i < 16 → ∀ j, j < 16 → tab i / 268435456 = tab j / 268435456 → i = j := by decide
theorem xor_div28 (a b : Nat) : (a ^^^ b) / 268435456 = a / 268435456 ^^^ b / 268435456 := by
  have := Nat.xor_div_two_pow (a := a) (b := b) (n := 28)
  simpa using this
theorem xor_cancel {a b c : Nat} (h : a ^^^ b = a ^^^ c) : b = c := by
  have := congrArg (fun x => a ^^^ x) h
  simpa [← Nat.xor_assoc] using this
theorem nib_inj {a b : Nat} (ha : a < 4294967296) (hb : b < 4294967296) (h : nib a = nib b) : a = b := by
  have ht : ∀ c, c < 4294967296 → nib c / 268435456 = tab (c % 16) / 268435456 := by
    intro c hc
    unfold nib
    rw [xor_div28, Nat.div_eq_of_lt (show c / 16 < 268435456 by omega), Nat.xor_zero]
  have hi : a % 16 = b % 16 := tab_top _ (Nat.mod_lt _ (by omega)) _ (Nat.mod_lt _ (by omega)) (by rw [← ht a ha, ← ht b hb, h])
  unfold nib at h
  rw [hi] at h
  have := xor_cancel h
  omega

/-- A byte's step. -/
def step (c : Nat) (b : UInt8) : Nat := nib (nib (c ^^^ b.toNat))
def crcF (c : Nat) (bs : List UInt8) : Nat := bs.foldl step c
def inv (c : Nat) : Nat := 4294967295 - c
def sumOn (s : Nat) (bs : List UInt8) : Nat := inv (crcF (inv s) bs)
def crc (bs : List UInt8) : Nat := sumOn 0 bs

theorem byte_lt (b : UInt8) : b.toNat < 256 := UInt8.toNat_lt b
theorem step_lt (c : Nat) (b : UInt8) (h : c < 4294967296) : step c b < 4294967296 := nib_lt _ (nib_lt _ (xor_lt _ _ h (by have := byte_lt b; omega)))
theorem step_inj {c d : Nat} {b : UInt8} (hc : c < 4294967296) (hd : d < 4294967296) (h : step c b = step d b) : c = d := by
  have hb := byte_lt b
  have h1 := nib_inj (nib_lt _ (xor_lt _ _ hc (by omega))) (nib_lt _ (xor_lt _ _ hd (by omega))) h
  have h2 := nib_inj (xor_lt _ _ hc (by omega)) (xor_lt _ _ hd (by omega)) h1
  rw [Nat.xor_comm c, Nat.xor_comm d] at h2
  exact xor_cancel h2
theorem step_byte {c : Nat} {a b : UInt8} (hc : c < 4294967296) (h : step c a = step c b) : a = b := by
  have ha := byte_lt a
  have hb := byte_lt b
  have h1 := nib_inj (nib_lt _ (xor_lt _ _ hc (by omega))) (nib_lt _ (xor_lt _ _ hc (by omega))) h
  have h2 := nib_inj (xor_lt _ _ hc (by omega)) (xor_lt _ _ hc (by omega)) h1
  exact UInt8.toNat_inj.1 (xor_cancel h2)
theorem crcF_lt (bs : List UInt8) : ∀ c, c < 4294967296 → crcF c bs < 4294967296 := by
  induction bs with
  | nil => exact fun _ h => h
  | cons b r ih => exact fun c h => ih _ (step_lt c b h)
theorem crcF_inj (bs : List UInt8) : ∀ {c d : Nat}, c < 4294967296 → d < 4294967296 → crcF c bs = crcF d bs → c = d := by
  induction bs with
  | nil => exact fun _ _ h => h
  | cons b r ih => exact fun hc hd h => step_inj hc hd (ih (step_lt _ _ hc) (step_lt _ _ hd) h)
theorem crcF_append (c : Nat) (a b : List UInt8) : crcF c (a ++ b) = crcF (crcF c a) b := List.foldl_append
theorem crcF_snoc (c : Nat) (a : List UInt8) (b : UInt8) : crcF c (a ++ [b]) = step (crcF c a) b := by rw [crcF_append]; rfl
theorem inv_lt (c : Nat) : inv c < 4294967296 := by unfold inv; omega
theorem inv_inv (c : Nat) (h : c < 4294967296) : inv (inv c) = c := by unfold inv; omega
theorem sumOn_lt (s : Nat) (bs : List UInt8) : sumOn s bs < 4294967296 := inv_lt _
theorem crc_lt (bs : List UInt8) : crc bs < 4294967296 := inv_lt _
theorem sumOn_crc (a b : List UInt8) : sumOn (crc a) b = crc (a ++ b) := by
  unfold crc sumOn
  rw [inv_inv _ (crcF_lt _ _ (inv_lt _)), crcF_append]
/-- A byte that is another one makes another sum. -/
theorem crc_flip (a : List UInt8) (x y : UInt8) (b : List UInt8) (h : crc (a ++ x :: b) = crc (a ++ y :: b)) : x = y := by
  unfold crc sumOn at h
  rw [crcF_append, crcF_append] at h
  have ha : crcF (inv 0) a < 4294967296 := crcF_lt _ _ (inv_lt _)
  have h1 : crcF (step (crcF (inv 0) a) x) b = crcF (step (crcF (inv 0) a) y) b := by
    have h2 := congrArg inv h
    rw [inv_inv _ (crcF_lt _ _ (crcF_lt _ _ (inv_lt _))), inv_inv _ (crcF_lt _ _ (crcF_lt _ _ (inv_lt _)))] at h2
    exact h2
  exact step_byte ha (crcF_inj b (step_lt _ _ ha) (step_lt _ _ ha) h1)
end Go.Proofs.YtjndgekpdmlbiaaGreatDoor.Fr
namespace Go.Proofs.YtjndgekpdmlbiaaGreatDoor.Fr

def at8 (bs : List UInt8) (j : Nat) : Int := ((bs.getD j 0).toNat : Int)
theorem at8_bd (bs : List UInt8) (j : Nat) : 0 ≤ at8 bs j ∧ at8 bs j ≤ 255 := by
  unfold at8
  have := UInt8.toNat_lt (bs.getD j 0)
  omega

def le4 (n : Nat) : List UInt8 := [UInt8.ofNat n, UInt8.ofNat (n / 256), UInt8.ofNat (n / 65536), UInt8.ofNat (n / 16777216)]
def wordN (bs : List UInt8) : Nat := (bs.getD 0 0).toNat + 256 * (bs.getD 1 0).toNat + 65536 * (bs.getD 2 0).toNat + 16777216 * (bs.getD 3 0).toNat
theorem le4_len (n : Nat) : (le4 n).length = 4 := rfl
theorem ofNat_mod (n : Nat) : (UInt8.ofNat n).toNat = n % 256 := by simp [UInt8.toNat_ofNat']
theorem wordN_lt (bs : List UInt8) : wordN bs < 4294967296 := by
  unfold wordN
  have h0 := byte_lt (bs.getD 0 0)
  have h1 := byte_lt (bs.getD 1 0)
  have h2 := byte_lt (bs.getD 2 0)
  have h3 := byte_lt (bs.getD 3 0)
  omega
theorem word_le4 (n : Nat) (h : n < 4294967296) (r : List UInt8) : wordN (le4 n ++ r) = n := by
  simp only [wordN, le4, List.cons_append, List.nil_append, List.getD, List.getElem?_cons_zero, List.getElem?_cons_succ, Option.getD_some, ofNat_mod]
  omega
theorem le4_word (bs : List UInt8) (h : 4 ≤ bs.length) : le4 (wordN bs) = bs.take 4 := by
  match bs, h with
  | a :: b :: c :: d :: r, _ =>
    have h0 := byte_lt a
    have h1 := byte_lt b
    have h2 := byte_lt c
    have h3 := byte_lt d
    simp only [wordN, le4, List.getD, List.getElem?_cons_zero, List.getElem?_cons_succ, Option.getD_some, List.take_succ_cons, List.take_zero, List.cons.injEq, and_true]
    refine ⟨?_, ?_, ?_, ?_⟩ <;> (apply UInt8.toNat_inj.1; rw [ofNat_mod]; omega)
theorem le4_inj {m n : Nat} (hm : m < 4294967296) (hn : n < 4294967296) (h : le4 m = le4 n) : m = n := by
  have := congrArg (fun l => wordN (l ++ [])) h
  simp only [word_le4 m hm, word_le4 n hn] at this
  exact this

def sealL (b : List UInt8) : List UInt8 := le4 b.length ++ (le4 (crc (le4 b.length ++ b)) ++ b)
theorem seal_len (b : List UInt8) : (sealL b).length = 8 + b.length := by simp [sealL, le4_len]; omega
theorem seal_drop (b : List UInt8) : (sealL b).drop 8 = b := by simp [sealL, le4]
theorem seal_take (b : List UInt8) : (sealL b).take 8 = le4 b.length ++ le4 (crc (le4 b.length ++ b)) := by simp [sealL, le4]

def bodyL (bs : List UInt8) : List UInt8 := (bs.drop 8).take (wordN bs)
def firstB (bs : List UInt8) : Option (List UInt8) :=
  if bs.length < 8 then none else if 65536 < wordN bs ∨ bs.length < 8 + wordN bs then none else
  if wordN (bs.drop 4) = crc (bs.take 4 ++ bodyL bs) then some (bodyL bs) else none

theorem first_short {bs : List UInt8} (h : bs.length < 8) : firstB bs = none := by rw [firstB, if_pos h]
theorem first_far {bs : List UInt8} (h : 65536 < wordN bs ∨ bs.length < 8 + wordN bs) : firstB bs = none := by
  unfold firstB
  split
  · rfl
  · rfl
theorem body_len {bs : List UInt8} (h : 8 + wordN bs ≤ bs.length) : (bodyL bs).length = wordN bs := by
  unfold bodyL; rw [List.length_take, List.length_drop]; omega
theorem first_some {bs b : List UInt8} (h : firstB bs = some b) : b.length ≤ 65536 ∧ bs = sealL b ++ bs.drop (8 + b.length) ∧ 8 + b.length ≤ bs.length := by
  unfold firstB at h
  by_cases h8 : bs.length < 8
  · rw [if_pos h8] at h; cases h
  rw [if_neg h8] at h
  by_cases hf : 65536 < wordN bs ∨ bs.length < 8 + wordN bs
  · rw [if_pos hf] at h; cases h
  rw [if_neg hf] at h
  by_cases hc : wordN (bs.drop 4) = crc (bs.take 4 ++ bodyL bs)
  · rw [if_pos hc] at h
    obtain rfl := Option.some.inj h
    have hl := body_len (bs := bs) (by omega)
    refine ⟨by omega, ?_, by omega⟩
    unfold sealL
    rw [hl, le4_word bs (by omega), ← hc, le4_word (bs.drop 4) (by rw [List.length_drop]; omega)]
    conv => lhs; rw [← List.take_append_drop 4 bs, ← List.take_append_drop 4 (bs.drop 4), List.drop_drop, ← List.take_append_drop (wordN bs) (bs.drop (4 + 4)), List.drop_drop]
    simp only [List.append_assoc]
    rfl
  · rw [if_neg hc] at h; cases h
theorem first_seal (b r : List UInt8) (h : b.length ≤ 65536) : firstB (sealL b ++ r) = some b := by
  have hw : wordN (sealL b ++ r) = b.length := by
    unfold sealL; rw [List.append_assoc]; exact word_le4 _ (by omega) _
  have hl : (sealL b ++ r).length = 8 + b.length + r.length := by rw [List.length_append, seal_len]
  have hb : bodyL (sealL b ++ r) = b := by
    unfold bodyL
    rw [hw, List.drop_append_of_le_length (by rw [seal_len]; omega), seal_drop, List.take_left]
  have h4 : (sealL b ++ r).take 4 = le4 b.length := by simp [sealL, le4]
  have hd : (sealL b ++ r).drop 4 = le4 (crc (le4 b.length ++ b)) ++ (b ++ r) := by simp [sealL, le4]
  unfold firstB
  rw [if_neg (by omega), if_neg (by omega), hb, h4, hd, if_pos (word_le4 _ (crc_lt _) _)]

/-- Whether the seal at the beginning is whole, as by making it anew. -/
theorem first_made {bs : List UInt8} (h8 : ¬ bs.length < 8) (hf : ¬ (65536 < wordN bs ∨ bs.length < 8 + wordN bs)) :
    firstB bs = if sealL (bodyL bs) = bs.take (8 + wordN bs) then some (bodyL bs) else none := by
  have hl := body_len (bs := bs) (by omega)
  split
  · next e =>
    have : bs = sealL (bodyL bs) ++ bs.drop (8 + wordN bs) := by rw [e, List.take_append_drop]
    rw [this, first_seal _ _ (by omega), ← this]
  · next e =>
    cases hx : firstB bs with
    | none => rfl
    | some b =>
      exfalso
      have hb : b = bodyL bs := by
        unfold firstB at hx
        rw [if_neg h8, if_neg hf] at hx
        split at hx
        · exact (Option.some.inj hx).symm
        · cases hx
      obtain ⟨_, h2, _⟩ := first_some hx
      apply e
      rw [hb, hl] at h2
      have h3 := congrArg (List.take (8 + wordN bs)) h2
      rw [List.take_left' (by rw [seal_len, hl])] at h3
      exact h3.symm

def scanL (bs : List UInt8) : List (List UInt8) × Nat :=
  if _h : bs.length < 8 then ([], 0) else match firstB bs with
    | none => ([], 0)
    | some b => (b :: (scanL (bs.drop (8 + b.length))).1, 8 + b.length + (scanL (bs.drop (8 + b.length))).2)
  termination_by bs.length
  decreasing_by all_goals (rw [List.length_drop]; omega)
theorem scan_none {bs : List UInt8} (h : firstB bs = none) : scanL bs = ([], 0) := by
  unfold scanL
  rw [h]
  split <;> rfl
theorem scan_some {bs b : List UInt8} (h : firstB bs = some b) : scanL bs = (b :: (scanL (bs.drop (8 + b.length))).1, 8 + b.length + (scanL (bs.drop (8 + b.length))).2) := by
  have hl := (first_some h).2.2
  conv => lhs; unfold scanL
  rw [h, dif_neg (by omega)]
def openL (bs : List UInt8) : Option (List UInt8) := match firstB bs with
  | none => none
  | some b => if bs.length = 8 + b.length then some b else none
theorem open_seal (b : List UInt8) (h : b.length ≤ 65536) : openL (sealL b) = some b := by
  have := first_seal b [] h
  rw [List.append_nil] at this
  unfold openL
  rw [this]
  simp [seal_len]
theorem scan_nil : scanL [] = ([], 0) := scan_none (first_short (by simp))
/-- Just one seal. -/
theorem open_one (bs : List UInt8) : openL bs = if (scanL bs).1.length = 1 ∧ (scanL bs).2 = bs.length then (scanL bs).1.head? else none := by
  unfold openL
  cases h : firstB bs with
  | none => rw [scan_none h]; simp
  | some b =>
    have hl := (first_some h).2.2
    rw [scan_some h]
    simp only [List.length_cons, List.head?_cons]
    by_cases e : bs.length = 8 + b.length
    · rw [if_pos e]
      have : bs.drop (8 + b.length) = [] := List.drop_eq_nil_of_le (by omega)
      rw [this, scan_nil]
      simp [e]
    · rw [if_neg e, if_neg]
      rintro ⟨h1, h2⟩
      have h3 : (scanL (bs.drop (8 + b.length))).1 = [] := List.eq_nil_of_length_eq_zero (by omega)
      cases h4 : firstB (bs.drop (8 + b.length)) with
      | none => rw [scan_none h4] at h2; simp at h2; omega
      | some c => rw [scan_some h4] at h3; cases h3

theorem flip_none (b c : List UInt8) (j : Nat) (y : UInt8) (hj : j < (sealL b).length) (hy : (sealL b).getD j 0 ≠ y) (h : firstB ((sealL b).set j y) = some c) (hl : c.length = b.length) : False := by
  obtain ⟨_, h2, _⟩ := first_some h
  have he : (sealL b).set j y = sealL c := by
    rw [List.drop_eq_nil_of_le (by rw [List.length_set, seal_len]; omega), List.append_nil] at h2
    exact h2
  have hcb : c ≠ b := by
    rintro rfl
    apply hy
    have := congrArg (fun l => l.getD j 0) he
    simp only [List.getD, List.getElem?_set_self hj, Option.getD_some] at this
    rw [List.getD, ← this]
  have hd := congrArg (List.drop 8) he
  have ht := congrArg (List.take 8) he
  rw [List.drop_set, seal_drop, seal_drop] at hd
  by_cases h8 : j < 8
  · rw [if_pos h8] at hd
    exact hcb hd.symm
  · rw [if_neg h8] at hd
    rw [List.take_set_of_le (by omega), seal_take, seal_take, hl] at ht
    have hk := le4_inj (crc_lt _) (crc_lt _) (List.append_cancel_left ht)
    rw [seal_len] at hj
    have hjb : j - 8 < b.length := by omega
    rw [List.set_eq_take_append_cons_drop, if_pos hjb] at hd
    have hb : b = b.take (j - 8) ++ b[j - 8] :: b.drop (j - 8 + 1) := by rw [List.getElem_cons_drop, List.take_append_drop]
    rw [← hd] at hk
    generalize le4 b.length = A at hk
    conv at hk => lhs; rw [hb]
    rw [← List.append_assoc, ← List.append_assoc] at hk
    have hxy := crc_flip _ _ _ _ hk
    apply hcb
    rw [← hd, ← hxy, ← hb]

theorem cut_none (b : List UInt8) (k : Nat) (h : b.length ≤ 65536) (hk : k < (sealL b).length) : firstB ((sealL b).take k) = none := by
  rw [seal_len] at hk
  by_cases h8 : k < 8
  · exact first_short (by rw [List.length_take]; omega)
  · refine first_far (Or.inr ?_)
    have hw : wordN ((sealL b).take k) = b.length := by
      have : (sealL b).take k = le4 b.length ++ ((le4 (crc (le4 b.length ++ b)) ++ b).take (k - 4)) := by
        unfold sealL
        rw [List.take_append, le4_len, List.take_of_length_le (by rw [le4_len]; omega)]
      rw [this]
      exact word_le4 _ (by omega) _
    rw [hw, List.length_take, seal_len]
    omega
theorem cut_scan (a b : List UInt8) (k : Nat) (ha : a.length ≤ 65536) (h : b.length ≤ 65536) (hk : k < (sealL b).length) : scanL (sealL a ++ (sealL b).take k) = ([a], 8 + a.length) := by
  rw [scan_some (first_seal a _ ha), ← seal_len a, List.drop_left, scan_none (cut_none b k h hk)]
  simp
theorem cut_open (b : List UInt8) (k : Nat) (h : b.length ≤ 65536) (hk : k < (sealL b).length) : openL ((sealL b).take k) = none := by
  unfold openL
  rw [cut_none b k h hk]
end Go.Proofs.YtjndgekpdmlbiaaGreatDoor.Fr
namespace Go.Proofs.YtjndgekpdmlbiaaGreatDoor.Fr
open Go.RowKit

def cells8 (bs : List UInt8) : List Value := bs.map fun b => .int .u8 (b.toNat : Int)
theorem cells8_len (bs : List UInt8) : (cells8 bs).length = bs.length := by simp [cells8]
theorem cells8_at (bs : List UInt8) (j : Nat) (h : j < bs.length) : (cells8 bs)[j]? = some (.int .u8 (at8 bs j)) := by
  simp [cells8, at8, List.getD, List.getElem?_eq_getElem h]
theorem cells8_one (bs : List UInt8) : ∀ u ∈ cells8 bs, u.oneCell' = true := by
  intro u hu
  obtain ⟨_, _, rfl⟩ := List.mem_map.1 hu
  rfl
theorem cells8_append (a b : List UInt8) : cells8 (a ++ b) = cells8 a ++ cells8 b := by simp [cells8]

/-- A slice value that reads as these bytes. -/
def Sl (w : World) (v : Value) (bs : List UInt8) : Prop :=
  ∃ ao cap, v = .slice ao bs.length cap ∧ bs.length ≤ cap ∧ cap ≤ maxLen ∧ (ao = none → cap = 0) ∧
    (0 < bs.length → ∃ g off, ao = some ⟨g, off, none⟩ ∧ ∀ j, j < bs.length → w.cell? ⟨g, off + j, none⟩ = some (.int .u8 (at8 bs j)))

theorem Sl.nil (w : World) : Sl w (.slice none 0 0) [] := ⟨none, 0, rfl, Nat.le_refl _, by simp [maxLen], fun _ => rfl, fun h => by simp at h⟩

theorem Sl.kept {w w' : World} {v : Value} {bs : List UInt8} (h : Sl w v bs) (hb : ∀ g o n, w.cell? ⟨g, o, none⟩ = some (.int .u8 n) → w'.heap[g]? = w.heap[g]?) : Sl w' v bs := by
  obtain ⟨ao, cap, hv, h1, h2, h3, h4⟩ := h
  refine ⟨ao, cap, hv, h1, h2, h3, fun hp => ?_⟩
  obtain ⟨g, off, ha, hc⟩ := h4 hp
  exact ⟨g, off, ha, fun j hj => (World.cell?_of_block (w := w) (a := ⟨g, off + j, none⟩) (hb g (off + j) _ (hc j hj))).trans (hc j hj)⟩

theorem cell_lt {w : World} {g o : Nat} {u : Value} (h : w.cell? ⟨g, o, none⟩ = some u) : g < w.heap.size := World.block_lt_of_cell? w ⟨g, o, none⟩ h

/-- What is below B stays, whatever is done from B on. -/
theorem Sl.below {w w' : World} {v : Value} {bs : List UInt8} (h : Sl w v bs) (hb : Below w.heap.size w w') : Sl w' v bs :=
  h.kept fun g _ _ hc => hb.block g (cell_lt hc)

theorem Sl.alloc {w : World} {v : Value} {bs : List UInt8} (h : Sl w v bs) (o : Obj) : Sl (w.alloc o) v bs :=
  h.below ((Below.refl _ _).alloc (Nat.le_refl _) o)

/-- The front of a slice. -/
theorem Sl.take {w : World} {ao : Option Addr} {len cap : Nat} {bs : List UInt8} (h : Sl w (.slice ao len cap) bs) (k : Nat) (hk : k ≤ len) : Sl w (.slice ao k cap) (bs.take k) := by
  obtain ⟨ao', cap', hv, h1, h2, h3, h4⟩ := h
  simp only [Value.slice.injEq] at hv
  obtain ⟨rfl, hl, rfl⟩ := hv
  have hlk : (bs.take k).length = k := by simp; omega
  refine ⟨ao, cap, by rw [hlk], by omega, h2, h3, fun hp => ?_⟩
  obtain ⟨g, off, ha, hc⟩ := h4 (by omega)
  refine ⟨g, off, ha, fun j hj => ?_⟩
  rw [hlk] at hj
  rw [hc j (by omega)]
  simp [at8, List.getD, hj]

/-- What is behind the front of a slice. -/
theorem Sl.drop {w : World} {ao : Option Addr} {len cap : Nat} {bs : List UInt8} (h : Sl w (.slice ao len cap) bs) (k : Nat) (hk : k ≤ len) (ao' : Option Addr) (hao : cap ≠ k → ao' = ao.map (·.add k)) (hz : cap = k → ao' = ao) :
    Sl w (.slice ao' (len - k) (cap - k)) (bs.drop k) := by
  obtain ⟨ao2, cap', hv, h1, h2, h3, h4⟩ := h
  simp only [Value.slice.injEq] at hv
  obtain ⟨rfl, hl, rfl⟩ := hv
  have hlk : (bs.drop k).length = len - k := by simp; omega
  refine ⟨ao', cap - k, by rw [hlk], by omega, by omega, fun hn => ?_, fun hp => ?_⟩
  · by_cases hc : cap = k
    · omega
    · rw [hao hc] at hn
      have := h3 (by cases ao <;> simp_all)
      omega
  · have hc : cap ≠ k := by omega
    obtain ⟨g, off, ha, hcell⟩ := h4 (by omega)
    refine ⟨g, off + k, ?_, fun j hj => ?_⟩
    · rw [hao hc, ha]; simp [Addr.add_lit]
    · rw [Nat.add_assoc, hcell (k + j) (by omega)]
      simp [at8, List.getD]

theorem Sl.len {w : World} {ao : Option Addr} {len cap : Nat} {bs : List UInt8} (h : Sl w (.slice ao len cap) bs) : len = bs.length := by
  obtain ⟨_, _, hv, _⟩ := h
  simp only [Value.slice.injEq] at hv
  exact hv.2.1
theorem Sl.shape {w : World} {v : Value} {bs : List UInt8} (h : Sl w v bs) : ∃ ao cap, v = .slice ao bs.length cap ∧ bs.length ≤ cap ∧ cap ≤ maxLen := by
  obtain ⟨ao, cap, hv, h1, h2, _⟩ := h
  exact ⟨ao, cap, hv, h1, h2⟩
theorem Sl.cell {w : World} {ao : Option Addr} {len cap : Nat} {bs : List UInt8} (h : Sl w (.slice ao len cap) bs) (hp : 0 < len) : ∃ g off, ao = some ⟨g, off, none⟩ ∧ ∀ j, j < len → w.cell? ⟨g, off + j, none⟩ = some (.int .u8 (at8 bs j)) := by
  obtain ⟨ao2, cap', hv, h1, h2, h3, h4⟩ := h
  simp only [Value.slice.injEq] at hv
  obtain ⟨rfl, hl, rfl⟩ := hv
  rw [hl] at hp ⊢
  exact h4 hp

/-- An owned row reads as its bytes. -/
theorem Sl.of_own {w : World} {base : Nat} {v : Value} {bs : List UInt8} (h : w.ownsRow base 5 1 v bs.length (cells8 bs)) : Sl w v bs := by
  rcases h.2 with ⟨rfl, h0⟩ | ⟨g, cap, cur, rfl, _, hg, hn, hc, hs, ht⟩
  · have : bs = [] := List.eq_nil_of_length_eq_zero h0
    subst this
    exact Sl.nil w
  · refine ⟨_, cap, rfl, hn, hc, fun e => by simp at e, fun _ => ⟨g, 0, rfl, fun j hj => ?_⟩⟩
    rw [Nat.zero_add]
    rw [h.cellAt j (by omega), cells8_at _ _ hj]

theorem str_of_sl {P : Program} {w : World} {v : Value} {bs : List UInt8} (h : Sl w v bs) (src e dst : TypeId) (hs : P.underlying src = some (.slice e)) (he : P.underlying e = some (.int .u8)) (hd : P.underlying dst = some .string) :
    (convert src dst v).run P w = .ok (.string ⟨bs.toArray⟩) w := by
  obtain ⟨ao, cap, rfl, h1, h2, h3, h4⟩ := h
  by_cases hp : 0 < bs.length
  · obtain ⟨g, off, rfl, hc⟩ := h4 hp
    have := run_convert_bytes_arg (P := P) w src e hs he g off bs.length cap (bs.map fun b => (b.toNat : Int)) (by simp) (fun i hi => by
      rw [hc i hi]; simp [at8, List.getD, List.getElem?_eq_getElem hi]) dst hd
    rw [this]
    congr 1
    congr 1
    unfold strOfNums
    simp only [List.map_map, ByteArray.mk.injEq]
    congr 1
    exact (List.map_congr_left (g := id) fun b _ => by simp).trans (List.map_id _)
  · have : bs = [] := List.eq_nil_of_length_eq_zero (by omega)
    subst this
    cases ao with
    | none => rw [run_convert_bytes_nil (P := P) w src e hs he _ _ dst hd]; rfl
    | some a =>
      rw [List.length_nil, run_convert_bytes_string w src dst e _ _ cap hs he hd, run_bytesToString w a 0 cap [] (by simp [loadCells, loadCellsFrom])]
      rfl

/-- A slice whose place is known, if it has one. -/
def Pl (v : Value) : Prop := v = .slice none 0 0 ∨ ∃ g off n cap, v = .slice (some ⟨g, off, none⟩) n cap
theorem Pl.of_own {w : World} {base : Nat} {v : Value} {bs : List UInt8} (h : w.ownsRow base 5 1 v bs.length (cells8 bs)) : Pl v := by
  rcases h.2 with ⟨rfl, h0⟩ | ⟨g, cap, cur, rfl, _⟩
  · exact Or.inl rfl
  · exact Or.inr ⟨g, 0, _, cap, rfl⟩

theorem grown_refl (w : World) (row : Option Nat) : w.grownBy w row := ⟨rfl, rfl, rfl, Nat.le_refl _, fun _ _ _ => rfl⟩

/-- The slice that is left behind k bytes, as the walk writes it. -/
theorem sl_rest {w : World} {g off len cap : Nat} {bs : List UInt8} (h : Sl w (.slice (some ⟨g, off, none⟩) len cap) bs) (k : Nat) (hk : k ≤ len) :
    Sl w (.slice (if cap = k then some ⟨g, off, none⟩ else some ⟨g, off + k, none⟩) (len - k) (cap - k)) (bs.drop k) ∧ Pl (.slice (if cap = k then some ⟨g, off, none⟩ else some ⟨g, off + k, none⟩) (len - k) (cap - k)) := by
  refine ⟨h.drop k hk _ (fun hc => by rw [if_neg hc]; simp [Addr.add_lit]) (fun hc => by rw [if_pos hc]), ?_⟩
  split
  · exact Or.inr ⟨_, _, _, _, rfl⟩
  · exact Or.inr ⟨_, _, _, _, rfl⟩

theorem Below.of_grown {w w' : World} {B H : Nat} (h : w.grownBy w' (some B)) (hH : H ≤ w.heap.size) (hB : H ≤ B) : Below H w w' :=
  (Below.refl H w).grown h hH (fun k hk => by simp at hk; omega)

end Go.Proofs.YtjndgekpdmlbiaaGreatDoor.Fr
namespace Go.Proofs.YtjndgekpdmlbiaaGreatDoor.Fr
open Go.RowKit

/-- What the package's table holds. -/
def Tab (w : World) : Prop := ∀ i, i < 16 → w.cell? ⟨0, i, none⟩ = some (.int .u32 (tab i : Int))
theorem Tab.below {w w' : World} (h : Tab w) (hb : Below w.heap.size w w') : Tab w' := fun i hi =>
  (World.cell?_of_block (w := w) (a := ⟨0, i, none⟩) (hb.block 0 (cell_lt (h i hi)))).trans (h i hi)

theorem and15 (x : Nat) (h : x < 4294967296) : bits .and .u32 (x : Int) 15 = ((x % 16 : Nat) : Int) := by
  have := u32_and_nat x 15 h (by omega)
  rw [show x &&& 15 = x % 16 from Nat.and_two_pow_sub_one_eq_mod x 4] at this
  exact this
theorem nib_walk (x : Nat) (h : x < 4294967296) : bits .xor .u32 (tab (x % 16) : Int) ((x : Int) / 16) = (nib x : Int) := by
  have := u32_xor_nat (tab (x % 16)) (x / 16) (tab_lt _) (by omega)
  rw [Int.natCast_ediv] at this
  exact this
/-- One byte's step, as the walk writes it. -/
theorem step_walk (cc : Nat) (bs : List UInt8) (k : Nat) (hc : cc < 4294967296) : ∃ x i y j z : Nat, bits .xor .u32 (cc : Int) (at8 bs k % 4294967296) = (x : Int) ∧ bits .and .u32 (x : Int) 15 = (i : Int) ∧ i < 16 ∧
    bits .xor .u32 (tab i : Int) ((x : Int) / 16) = (y : Int) ∧ bits .and .u32 (y : Int) 15 = (j : Int) ∧ j < 16 ∧ bits .xor .u32 (tab j : Int) ((y : Int) / 16) = (z : Int) ∧ Hid (z = step cc (bs.getD k 0)) := by
  have hb := byte_lt (bs.getD k 0)
  have hx := xor_lt cc (bs.getD k 0).toNat hc (by omega)
  refine ⟨cc ^^^ (bs.getD k 0).toNat, _, nib (cc ^^^ (bs.getD k 0).toNat), _, _, ?_, and15 _ hx, Nat.mod_lt _ (by omega), nib_walk _ hx, and15 _ (nib_lt _ hx), Nat.mod_lt _ (by omega), nib_walk _ (nib_lt _ hx), rfl⟩
  have e : at8 bs k % 4294967296 = ((bs.getD k 0).toNat : Int) := by unfold at8; omega
  rw [e]
  exact u32_xor_nat _ _ hc (by omega)
theorem inv_walk (c : Nat) (h : c < 4294967296) : bits .xor .u32 IntKind.u32.max (c : Int) = (inv c : Int) := by
  have := u32_xor_nat 4294967295 c (by omega) h
  refine this.trans (congrArg _ ?_)
  have h2 : (2 ^ 32 - 1) ^^^ c = 2 ^ 32 - 1 - c := by
    apply Nat.eq_of_testBit_eq
    intro j
    rw [Nat.testBit_xor, Nat.testBit_two_pow_sub_one]
    have := Nat.testBit_two_pow_sub_succ (n := 32) (x := c) (by omega) j
    rw [show 2 ^ 32 - 1 - c = 2 ^ 32 - (c + 1) by omega, this]
    by_cases hj : j < 32
    · simp [hj]
    · have : c.testBit j = false := Nat.testBit_lt_two_pow (Nat.lt_of_lt_of_le h (Nat.pow_le_pow_right (n := 2) (i := 32) (by omega) (by omega)))
      simp [hj, this]
  exact h2
theorem drop_at (bs : List UInt8) (k : Nat) (h : k < bs.length) (c : Nat) : crcF c (bs.drop k) = crcF (step c (bs.getD k 0)) (bs.drop (k + 1)) := by
  rw [List.drop_eq_getElem_cons h, List.getD, List.getElem?_eq_getElem h]
  rfl

set_option maxHeartbeats 400000 in
theorem sumOn_any (s : Nat) (v : Value) (bs : List UInt8) (w : World) (hs : s < 4294967296) (h : Sl w v bs) (ht : Tab w) :
    Calls Tryz.prog 128 #[.int .u32 s, v] w fun e w' => e = .returned (.int .u32 (sumOn s bs : Int)) ∧ w' = w := by
  obtain ⟨ao, cap, rfl, h1, h2⟩ := h.shape
  have h2' : cap ≤ 9223372036854775807 := h2
  have HS : Hid (Sl w (.slice ao bs.length cap) bs) := h
  have HT : Hid (Tab w) := ht
  clear h ht
  go_enter Tryz.func128, Tryz.ntmps128
  go_wp2
  go_loopw [0, 11] (fun c i wr => ∃ (k cc : Nat), k ≤ bs.length ∧ i = .int .i64 k ∧ c = .int .u32 (cc : Int) ∧ Hid (cc < 4294967296) ∧ Hid (crcF cc (bs.drop k) = crcF (inv s) bs) ∧ wr = w) (fun _ i _ => bs.length - (intOf i).toNat)
  case atStart => exact ⟨0, inv s, Nat.zero_le _, rfl, congrArg _ (inv_walk s hs), inv_lt _, rfl, rfl⟩
  case round =>
    obtain ⟨k, cc, hk, rfl, rfl, HC, HF, hw⟩ := hrel
    have hw' := hw.symm
    subst hw'
    by_cases hlt : k < bs.length
    · obtain ⟨g, off, rfl, hc⟩ := HS.out.cell (by omega)
      have hcx := hc k hlt
      clear hc
      obtain ⟨x, i, y, j, z, hX, hI, hi, hY, hJ, hj, hZ, HZ⟩ := step_walk cc bs k HC.out
      have hci := HT.out i hi
      have hcj := HT.out j hj
      go_wp2
      go_roundw
      case rel =>
        have hz := HZ.out
        subst hz
        refine ⟨k + 1, _, by omega, rfl, rfl, step_lt _ _ HC.out, ?_, trivial⟩
        show _ = _
        rw [← HF.out, drop_at bs k hlt]
      case measure => simp [intOf]; omega
    · have hlt' : ¬ (k : Int) < (bs.length : Int) := by omega
      go_wp2
      go_ret
      refine ⟨?_, rfl⟩
      rw [inv_walk _ HC.out, sumOn, ← HF.out, List.drop_eq_nil_of_le (by omega)]
      rfl

set_option maxHeartbeats 400000 in
theorem sum_any (v : Value) (bs : List UInt8) (w : World) (h : Sl w v bs) (ht : Tab w) :
    Calls Tryz.prog 129 #[v] w fun e w' => e = .returned (.int .u32 (crc bs : Int)) ∧ w' = w := by
  obtain ⟨ao, cap, rfl, h1, h2⟩ := h.shape
  go_enter Tryz.func129, Tryz.ntmps129
  go_wp2_with (go_at_call 128; refine (sumOn_any 0 _ bs _ (by omega) h ht).mono ?_; rintro e w' ⟨rfl, hw⟩; have hw' := hw.symm; subst hw')
  go_ret
  exact ⟨rfl, rfl⟩
end Go.Proofs.YtjndgekpdmlbiaaGreatDoor.Fr
namespace Go.Proofs.YtjndgekpdmlbiaaGreatDoor
open Go.ChangeShapes Go.WideShapes Go.ChangeAt Go.RowKit

theorem own : ownKnob Tryz.prog.godebug = none := by kernel_rfl
theorem laidOut : laidOutB Tryz.prog = true := by kernel_rfl
theorem gTab : Tryz.prog.globalNamed "delphi/frame.nibbleSums" = some 0 := by kernel_rfl
theorem tTab : (Tryz.prog.globals[0]?).map (·.type) = some 195 := by kernel_rfl
def laid1 : List (String × DataW Unit) := [("delphi/frame.nibbleSums", Rows.laid_delphi_frame_nibbleSums)]

theorem door_met (os : Os) (args : Array Value) : laidMetH Tryz.prog laid1 ((World.doorLaid Tryz.prog 400 os).forCall (fun _ _ => 0) ⟨#[], args, []⟩).memory :=
  laidMetH_of_parts3 (fuel := 8) (laidMet_of_run' 8 (by kernel_rfl) (by kernel_rfl)) (by kernel_rfl) (by kernel_rfl)

theorem of_laid {W : World} (h : laidMetH Tryz.prog laid1 W) : Fr.Tab W := by
  rw [MakeChecks.laidMetH_plain _ _ _ (by kernel_rfl)] at h
  obtain ⟨ps, ⟨g0, t0, cs0, f0, p0, q0, hg0, ht0, hv0, hd0, _, _⟩, _, _⟩ := h
  obtain rfl := Option.some.inj (gTab.symm.trans hg0)
  obtain rfl := Option.some.inj (tTab.symm.trans ht0)
  obtain ⟨xs, m1, rfl, hx1, hlen, hn3, hel⟩ := DataW.trod_array Tryz.underlying195 hd0
  intro i hi
  have c117 : Tryz.prog.cellsOf 181 = 1 := by kernel_rfl
  have h0 := hel i hi
  rw [List.getElem?_eq_getElem (by omega), c117, Nat.mul_one] at h0
  obtain ⟨k, e1, e2, _⟩ := DataW.trod_int Tryz.underlying181 h0
  simp only [Prod.mk.injEq] at hx1
  have hx := hx1.1
  have hL : Rows.laid_delphi_frame_nibbleSums = (DataW.agg (Fr.tabL.map fun n : Nat => DataW.lit (.int .u32 (n : Int))) : DataW Unit) := rfl
  rw [hL, DataW.agg.injEq] at hx
  have hxi := congrArg (fun l => l[i]?) hx
  have ht : Fr.tabL[i]? = some (Fr.tab i) := by
    unfold Fr.tab
    rw [List.getD, List.getElem?_eq_getElem (show i < Fr.tabL.length from hi)]
    rfl
  simp only [List.getElem?_map, ht, List.getElem?_eq_getElem (show i < xs.length by omega), Option.map_some, Option.some.injEq] at hxi
  have hk : k = (Fr.tab i : Int) := by
    rw [e2] at hxi
    simp at hxi
    exact hxi.symm
  subst hk
  have hc := World.var?_cell hg0 hv0 i
  rw [hc, ← Array.getElem?_toList]
  have h1 := congrArg (fun l => l[0]?) e1
  simpa using h1
end Go.Proofs.YtjndgekpdmlbiaaGreatDoor

/- Plain mathematics of the sum: a table of sixteen words does what eight single bits do; a byte that was changed changes the sum. No program is named here. -/
namespace Go.Proofs.YtnbdkojdddplkaaDoor.Fr

def tabL : List Nat := [0, 498536548, 997073096, 651767980, 1994146192, 1802195444, 1303535960, 1342533948, 3988292384, 4027552580, 3604390888, 3412177804, 2607071920, 2262029012, 2685067896, 3183342108]
def tab (i : Nat) : Nat := tabL.getD i 0
def bit1 (c : Nat) : Nat := if c % 2 = 1 then (c / 2) ^^^ 3988292384 else c / 2
def nib (c : Nat) : Nat := tab (c % 16) ^^^ (c / 16)

theorem tab_lt (i : Nat) : tab i < 4294967296 := by
  by_cases h : i < 16
  · revert i; decide
  · unfold tab
    rw [List.getD, List.getElem?_eq_none (by simp [tabL]; omega)]
    decide

theorem bit1_xor (a b : Nat) : bit1 (a ^^^ b) = bit1 a ^^^ bit1 b := by
  have h2 : (a ^^^ b) / 2 = a / 2 ^^^ b / 2 := Nat.xor_div_two
  have hm : (a ^^^ b) % 2 = (a + b) % 2 := by
    have := Nat.xor_mod_two_pow (a := a) (b := b) (n := 1)
    simp only [Nat.pow_one] at this
    rw [this]
    rcases Nat.mod_two_eq_zero_or_one a with h | h <;> rcases Nat.mod_two_eq_zero_or_one b with h' | h' <;> rw [h, h', Nat.add_mod, h, h'] <;> rfl
  unfold bit1
  rw [h2, hm]
  generalize a / 2 = x
  generalize b / 2 = y
  rcases Nat.mod_two_eq_zero_or_one a with h | h <;> rcases Nat.mod_two_eq_zero_or_one b with h' | h' <;> rw [Nat.add_mod, h, h'] <;> simp
  · ac_rfl
  · ac_rfl
  · rw [show x ^^^ 3988292384 ^^^ (y ^^^ 3988292384) = (x ^^^ y) ^^^ (3988292384 ^^^ 3988292384) by ac_rfl]; simp

theorem split16 (k i : Nat) (h : i < 16) : 16 * k + i = (16 * k) ^^^ i := by
  apply Nat.eq_of_testBit_eq
  intro j
  rw [Nat.testBit_xor, show 16 = 2 ^ 4 from rfl, Nat.testBit_two_pow_mul_add k (show i < 2 ^ 4 by omega), Nat.testBit_two_pow_mul]
  by_cases hj : j < 4
  · have : ¬ 4 ≤ j := by omega
    simp [hj, this]
  · have h1 : 4 ≤ j := by omega
    have h2 : i.testBit j = false := Nat.testBit_lt_two_pow (Nat.lt_of_lt_of_le (show i < 2 ^ 4 by omega) (Nat.pow_le_pow_right (by omega) h1))
    simp [hj, h1, h2]

theorem bit4_low : ∀ i, i < 16 → bit1 (bit1 (bit1 (bit1 i))) = tab i := by decide
theorem bit1_even (k : Nat) : bit1 (2 * k) = k := by unfold bit1; rw [if_neg (by omega)]; omega
theorem bit4_high (k : Nat) : bit1 (bit1 (bit1 (bit1 (16 * k)))) = k := by
  rw [show 16 * k = 2 * (8 * k) by omega, bit1_even, show 8 * k = 2 * (4 * k) by omega, bit1_even, show 4 * k = 2 * (2 * k) by omega, bit1_even, bit1_even]

/-- Four bits by the table. -/
theorem nib_bits (c : Nat) : nib c = bit1 (bit1 (bit1 (bit1 c))) := by
  have e : c = (16 * (c / 16)) ^^^ (c % 16) := by rw [← split16 _ _ (Nat.mod_lt _ (by omega))]; omega
  have hm := bit4_low (c % 16) (Nat.mod_lt _ (by omega))
  have hh := bit4_high (c / 16)
  unfold nib
  conv => rhs; rw [e]
  rw [bit1_xor, bit1_xor, bit1_xor, bit1_xor, hh, hm, Nat.xor_comm]

theorem xor_lt (a b : Nat) (ha : a < 4294967296) (hb : b < 4294967296) : a ^^^ b < 4294967296 := Nat.xor_lt_two_pow (n := 32) ha hb
theorem nib_lt (c : Nat) (h : c < 4294967296) : nib c < 4294967296 := xor_lt _ _ (tab_lt _) (by omega)
theorem bit1_lt (c : Nat) (h : c < 4294967296) : bit1 c < 4294967296 := by
  unfold bit1
  split
  · exact xor_lt _ _ (by omega) (by omega)
  · omega

theorem tab_top : ∀ i, i < 16 → ∀ j, j < 16 → tab i / 268435456 = tab j / 268435456 → i = j := by decide
theorem xor_div28 (a b : Nat) : (a ^^^ b) / 268435456 = a / 268435456 ^^^ b / 268435456 := by
  have := Nat.xor_div_two_pow (a := a) (b := b) (n := 28)
  simpa using this
theorem xor_cancel {a b c : Nat} (h : a ^^^ b = a ^^^ c) : b = c := by
  have := congrArg (fun x => a ^^^ x) h
  simpa [← Nat.xor_assoc] using this
theorem nib_inj {a b : Nat} (ha : a < 4294967296) (hb : b < 4294967296) (h : nib a = nib b) : a = b := by
  have ht : ∀ c, c < 4294967296 → nib c / 268435456 = tab (c % 16) / 268435456 := by
    intro c hc
    unfold nib
    rw [xor_div28, Nat.div_eq_of_lt (show c / 16 < 268435456 by omega), Nat.xor_zero]
  have hi : a % 16 = b % 16 := tab_top _ (Nat.mod_lt _ (by omega)) _ (Nat.mod_lt _ (by omega)) (by rw [← ht a ha, ← ht b hb, h])
  unfold nib at h
  rw [hi] at h
  have := xor_cancel h
  omega

/-- A byte's step. -/
def step (c : Nat) (b : UInt8) : Nat := nib (nib (c ^^^ b.toNat))
def crcF (c : Nat) (bs : List UInt8) : Nat := bs.foldl step c
def inv (c : Nat) : Nat := 4294967295 - c
def sumOn (s : Nat) (bs : List UInt8) : Nat := inv (crcF (inv s) bs)
def crc (bs : List UInt8) : Nat := sumOn 0 bs

theorem byte_lt (b : UInt8) : b.toNat < 256 := UInt8.toNat_lt b
theorem step_lt (c : Nat) (b : UInt8) (h : c < 4294967296) : step c b < 4294967296 := nib_lt _ (nib_lt _ (xor_lt _ _ h (by have := byte_lt b; omega)))
theorem step_inj {c d : Nat} {b : UInt8} (hc : c < 4294967296) (hd : d < 4294967296) (h : step c b = step d b) : c = d := by
  have hb := byte_lt b
  have h1 := nib_inj (nib_lt _ (xor_lt _ _ hc (by omega))) (nib_lt _ (xor_lt _ _ hd (by omega))) h
  have h2 := nib_inj (xor_lt _ _ hc (by omega)) (xor_lt _ _ hd (by omega)) h1
  rw [Nat.xor_comm c, Nat.xor_comm d] at h2
  exact xor_cancel h2
theorem step_byte {c : Nat} {a b : UInt8} (hc : c < 4294967296) (h : step c a = step c b) : a = b := by
  have ha := byte_lt a
  have hb := byte_lt b
  have h1 := nib_inj (nib_lt _ (xor_lt _ _ hc (by omega))) (nib_lt _ (xor_lt _ _ hc (by omega))) h
  have h2 := nib_inj (xor_lt _ _ hc (by omega)) (xor_lt _ _ hc (by omega)) h1
  exact UInt8.toNat_inj.1 (xor_cancel h2)
theorem crcF_lt (bs : List UInt8) : ∀ c, c < 4294967296 → crcF c bs < 4294967296 := by
  induction bs with
  | nil => exact fun _ h => h
  | cons b r ih => exact fun c h => ih _ (step_lt c b h)
theorem crcF_inj (bs : List UInt8) : ∀ {c d : Nat}, c < 4294967296 → d < 4294967296 → crcF c bs = crcF d bs → c = d := by
  induction bs with
  | nil => exact fun _ _ h => h
  | cons b r ih => exact fun hc hd h => step_inj hc hd (ih (step_lt _ _ hc) (step_lt _ _ hd) h)
theorem crcF_append (c : Nat) (a b : List UInt8) : crcF c (a ++ b) = crcF (crcF c a) b := List.foldl_append
theorem crcF_snoc (c : Nat) (a : List UInt8) (b : UInt8) : crcF c (a ++ [b]) = step (crcF c a) b := by rw [crcF_append]; rfl
theorem inv_lt (c : Nat) : inv c < 4294967296 := by unfold inv; omega
theorem inv_inv (c : Nat) (h : c < 4294967296) : inv (inv c) = c := by unfold inv; omega
theorem sumOn_lt (s : Nat) (bs : List UInt8) : sumOn s bs < 4294967296 := inv_lt _
theorem crc_lt (bs : List UInt8) : crc bs < 4294967296 := inv_lt _
theorem sumOn_crc (a b : List UInt8) : sumOn (crc a) b = crc (a ++ b) := by
  unfold crc sumOn
  rw [inv_inv _ (crcF_lt _ _ (inv_lt _)), crcF_append]
/-- A byte that is another one makes another sum. -/
theorem crc_flip (a : List UInt8) (x y : UInt8) (b : List UInt8) (h : crc (a ++ x :: b) = crc (a ++ y :: b)) : x = y := by
  unfold crc sumOn at h
  rw [crcF_append, crcF_append] at h
  have ha : crcF (inv 0) a < 4294967296 := crcF_lt _ _ (inv_lt _)
  have h1 : crcF (step (crcF (inv 0) a) x) b = crcF (step (crcF (inv 0) a) y) b := by
    have h2 := congrArg inv h
    rw [inv_inv _ (crcF_lt _ _ (crcF_lt _ _ (inv_lt _))), inv_inv _ (crcF_lt _ _ (crcF_lt _ _ (inv_lt _)))] at h2
    exact h2
  exact step_byte ha (crcF_inj b (step_lt _ _ ha) (step_lt _ _ ha) h1)
end Go.Proofs.YtnbdkojdddplkaaDoor.Fr

/- Plain mathematics of numbers as bytes: what is written for a number, what is read off bytes, and that the one undoes the other. No program is named here. -/
namespace Go.Proofs.YtnbdkojdddplkaaDoor.Bn

def zig (n : Int) : Nat := if n < 0 then (2 * (-1 - n) + 1).toNat else (2 * n).toNat
def zag (u : Nat) : Int := if u % 2 = 1 then -1 - ((u / 2 : Nat) : Int) else ((u / 2 : Nat) : Int)
theorem zag_zig (n : Int) : zag (zig n) = n := by
  unfold zag zig
  by_cases h : n < 0
  · simp only [h, if_true]
    rw [if_pos (by omega)]
    omega
  · simp only [h, if_false]
    rw [if_neg (by omega)]
    omega
theorem zig_lt (n : Int) (h0 : -9223372036854775808 ≤ n) (h1 : n ≤ 9223372036854775807) : zig n < 18446744073709551616 := by
  unfold zig
  by_cases h : n < 0
  · simp only [h, if_true]; omega
  · simp only [h, if_false]; omega

def encF : Nat → Nat → List UInt8
  | 0, u => [UInt8.ofNat u]
  | f + 1, u => if 128 ≤ u then UInt8.ofNat (u % 128 + 128) :: encF f (u / 128) else [UInt8.ofNat u]
def enc (n : Int) : List UInt8 := encF 9 (zig n)

theorem encF_last (f u : Nat) (h : u < 128) : encF f u = [UInt8.ofNat u] := by
  cases f with
  | zero => rfl
  | succ f => unfold encF; rw [if_neg (by omega)]
theorem encF_more (f u : Nat) (h : 128 ≤ u) : encF (f + 1) u = UInt8.ofNat (u % 128 + 128) :: encF f (u / 128) := by
  rw [encF, if_pos h]
theorem div_lt {f u : Nat} (h : u < 2 * 128 ^ (f + 1)) : u / 128 < 2 * 128 ^ f := by
  rw [Nat.pow_succ] at h
  omega

theorem toNat_lo {u : Nat} (h : u < 256) : (UInt8.ofNat u).toNat = u := by
  simp [UInt8.toNat_ofNat']; omega

def acc : List UInt8 → Nat
  | [] => 0
  | b :: r => b.toNat % 128 + 128 * acc r
def len7 : Nat → List UInt8 → Nat
  | 0, _ => 0
  | _ + 1, [] => 0
  | f + 1, b :: r => if 128 ≤ b.toNat then (if len7 f r = 0 then 0 else len7 f r + 1) else 1
def at8 (bs : List UInt8) (j : Nat) : Int := ((bs.getD j 0).toNat : Int)
theorem at8_bd (bs : List UInt8) (j : Nat) : 0 ≤ at8 bs j ∧ at8 bs j ≤ 255 := by
  unfold at8
  have := UInt8.toNat_lt (bs.getD j 0)
  omega
theorem at8_cons_succ (b : UInt8) (r : List UInt8) (j : Nat) : at8 (b :: r) (j + 1) = at8 r j := by simp [at8]
theorem at8_cons_zero (b : UInt8) (r : List UInt8) : at8 (b :: r) 0 = (b.toNat : Int) := by simp [at8]

def bad (bs : List UInt8) : Prop := len7 10 bs = 0 ∨ (1 < len7 10 bs ∧ at8 bs (len7 10 bs - 1) = 0) ∨ (len7 10 bs = 10 ∧ 1 < at8 bs 9)
def badB (bs : List UInt8) : Bool := len7 10 bs == 0 || (decide (1 < len7 10 bs) && decide (at8 bs (len7 10 bs - 1) = 0)) || (len7 10 bs == 10 && decide (1 < at8 bs 9))
theorem badB_iff (bs : List UInt8) : badB bs = true ↔ bad bs := by
  unfold badB bad
  simp [or_assoc]
def num (bs : List UInt8) : Option (Nat × Nat) := if badB bs then none else some (acc (bs.take (len7 10 bs)), len7 10 bs)

theorem num_bad {bs : List UInt8} (h : bad bs) : num bs = none := by
  unfold num; rw [if_pos ((badB_iff bs).2 h)]
theorem num_ok {bs : List UInt8} (h : ¬ bad bs) : num bs = some (acc (bs.take (len7 10 bs)), len7 10 bs) := by
  unfold num
  rw [if_neg (fun e => h ((badB_iff bs).1 e))]

theorem len7_at (i : Nat) : ∀ (f : Nat) (bs : List UInt8), (∀ j, j < i → 128 ≤ at8 bs j) → i < bs.length → at8 bs i < 128 → i < f → len7 f bs = i + 1 := by
  induction i with
  | zero =>
    intro f bs _ hl hi hf
    cases f with
    | zero => omega
    | succ f =>
      cases bs with
      | nil => simp at hl
      | cons b r => rw [at8_cons_zero] at hi; rw [len7, if_neg (by omega)]
  | succ i ih =>
    intro f bs hj hl hi hf
    cases f with
    | zero => omega
    | succ f =>
      cases bs with
      | nil => simp at hl
      | cons b r =>
        have h0 := hj 0 (by omega)
        rw [at8_cons_zero] at h0
        rw [at8_cons_succ] at hi
        have ih' := ih f r (fun j hj' => by have := hj (j + 1) (by omega); rwa [at8_cons_succ] at this) (by simpa using hl) hi (by omega)
        rw [len7, if_pos (by omega), if_neg (by omega), ih']

theorem len7_none : ∀ (f : Nat) (bs : List UInt8), (∀ j, j < f → j < bs.length → 128 ≤ at8 bs j) → len7 f bs = 0
  | 0, _, _ => rfl
  | _ + 1, [], _ => rfl
  | f + 1, b :: r, hj => by
    have h0 := hj 0 (by omega) (by simp)
    rw [at8_cons_zero] at h0
    have ih := len7_none f r (fun j h1 h2 => by have := hj (j + 1) (by omega) (by simpa using h2); rwa [at8_cons_succ] at this)
    simp only [len7]
    rw [if_pos (by omega), if_pos ih]

theorem len7_le : ∀ (f : Nat) (bs : List UInt8), len7 f bs ≤ f ∧ len7 f bs ≤ bs.length
  | 0, _ => by simp [len7]
  | _ + 1, [] => by simp [len7]
  | f + 1, b :: r => by
    have ih := len7_le f r
    simp only [len7, List.length_cons]
    by_cases h : 128 ≤ b.toNat
    · rw [if_pos h]
      by_cases h0 : len7 f r = 0
      · rw [if_pos h0]; omega
      · rw [if_neg h0]; omega
    · rw [if_neg h]; omega

theorem acc_lt : ∀ bs : List UInt8, acc bs < 128 ^ bs.length
  | [] => by simp [acc]
  | b :: r => by
    have ih := acc_lt r
    simp only [acc, List.length_cons, Nat.pow_succ]
    omega
theorem acc_snoc : ∀ (bs : List UInt8) (b : UInt8), acc (bs ++ [b]) = acc bs + (b.toNat % 128) * 128 ^ bs.length
  | [], b => by simp [acc]
  | c :: r, b => by
    have ih := acc_snoc r b
    simp only [List.cons_append, acc, ih, List.length_cons, Nat.pow_succ]
    rw [Nat.mul_add, ← Nat.mul_assoc, Nat.mul_comm 128 (b.toNat % 128), Nat.mul_assoc, Nat.mul_comm 128 (128 ^ r.length)]
    omega
theorem acc_take (bs : List UInt8) (i : Nat) (h : i < bs.length) : (acc (bs.take (i + 1)) : Int) = acc (bs.take i) + (at8 bs i % 128) * 128 ^ i := by
  have e : bs.take (i + 1) = bs.take i ++ [bs[i]] := List.take_succ_eq_append_getElem h
  rw [e, acc_snoc]
  have hl : (bs.take i).length = i := by simp; omega
  have ha : at8 bs i = (bs[i].toNat : Int) := by simp [at8, List.getD, List.getElem?_eq_getElem h]
  rw [hl, ha]
  push_cast
  rfl
theorem acc_take_lt (bs : List UInt8) (i : Nat) : acc (bs.take i) < 128 ^ i := by
  have h := acc_lt (bs.take i)
  have hl : (bs.take i).length ≤ i := List.length_take_le _ _
  exact Nat.lt_of_lt_of_le h (Nat.pow_le_pow_right (by omega) hl)

/- what is written is read -/
theorem encF_len : ∀ (f u : Nat), 1 ≤ (encF f u).length ∧ (encF f u).length ≤ f + 1
  | 0, u => by simp [encF]
  | f + 1, u => by
    by_cases h : 128 ≤ u
    · rw [encF_more f u h]; have := encF_len f (u / 128); simp; omega
    · rw [encF_last _ _ (by omega)]; simp
theorem encF_len7 : ∀ (f u : Nat) (r : List UInt8), u < 2 * 128 ^ f → len7 (f + 1) (encF f u ++ r) = (encF f u).length
  | 0, u, r, hu => by
    have e : encF 0 u = [UInt8.ofNat u] := rfl
    rw [e]
    have h1 : (UInt8.ofNat u).toNat = u := toNat_lo (by omega)
    simp only [List.cons_append, List.nil_append, len7, List.length_cons, List.length_nil]
    rw [h1, if_neg (by omega)]
  | f + 1, u, r, hu => by
    by_cases h : 128 ≤ u
    · have ih := encF_len7 f (u / 128) r (div_lt hu)
      have hp := encF_len f (u / 128)
      rw [encF_more f u h]
      have h1 : (UInt8.ofNat (u % 128 + 128)).toNat = u % 128 + 128 := toNat_lo (by omega)
      rw [List.cons_append, len7, h1, if_pos (by omega), ih, if_neg (by omega), List.length_cons]
    · rw [encF_last _ _ (by omega)]
      have h1 : (UInt8.ofNat u).toNat = u := toNat_lo (by omega)
      rw [List.cons_append, len7, h1, if_neg (by omega)]; rfl
theorem encF_acc : ∀ (f u : Nat), u < 2 * 128 ^ f → acc (encF f u) = u
  | 0, u, hu => by
    have h1 : (UInt8.ofNat u).toNat = u := toNat_lo (by omega)
    simp only [encF, acc, h1]; omega
  | f + 1, u, hu => by
    by_cases h : 128 ≤ u
    · have ih := encF_acc f (u / 128) (div_lt hu)
      have h1 : (UInt8.ofNat (u % 128 + 128)).toNat = u % 128 + 128 := toNat_lo (by omega)
      rw [encF_more f u h, acc, ih, h1]; omega
    · have h1 : (UInt8.ofNat u).toNat = u := toNat_lo (by omega)
      rw [encF_last _ _ (by omega), acc, acc, h1]; omega
/-- All bytes but the last bear the mark; the last is not 0 where the number is not; where all places are taken it is at most 1. -/
theorem encF_bytes : ∀ (f u : Nat), u < 2 * 128 ^ f → (∀ j, j + 1 < (encF f u).length → 128 ≤ at8 (encF f u) j) ∧ (0 < u → 0 < at8 (encF f u) ((encF f u).length - 1)) ∧ at8 (encF f u) ((encF f u).length - 1) < 128 ∧
      ((encF f u).length = f + 1 → at8 (encF f u) f ≤ 1)
  | 0, u, hu => by
    have h1 : (UInt8.ofNat u).toNat = u := toNat_lo (by omega)
    have e : encF 0 u = [UInt8.ofNat u] := rfl
    rw [e]
    have e0 : ([UInt8.ofNat u] : List UInt8).length - 1 = 0 := rfl
    rw [e0, at8_cons_zero, h1]
    refine ⟨fun j hj => by simp at hj, fun h => by omega, by omega, fun _ => by omega⟩
  | f + 1, u, hu => by
    by_cases h : 128 ≤ u
    · obtain ⟨i1, i2, i3, i4⟩ := encF_bytes f (u / 128) (div_lt hu)
      have hp := encF_len f (u / 128)
      have h1 : (UInt8.ofNat (u % 128 + 128)).toNat = u % 128 + 128 := toNat_lo (by omega)
      rw [encF_more f u h, List.length_cons]
      have e : (encF f (u / 128)).length + 1 - 1 = ((encF f (u / 128)).length - 1) + 1 := by omega
      rw [e, at8_cons_succ]
      refine ⟨fun j hj => ?_, fun _ => i2 (by omega), i3, fun hl => ?_⟩
      · cases j with
        | zero => rw [at8_cons_zero, h1]; omega
        | succ j => rw [at8_cons_succ]; exact i1 j (by omega)
      · rw [at8_cons_succ]; exact i4 (by omega)
    · rw [encF_last _ _ (by omega)]
      have h1 : (UInt8.ofNat u).toNat = u := toNat_lo (by omega)
      have e0 : ([UInt8.ofNat u] : List UInt8).length - 1 = 0 := rfl
      rw [e0, at8_cons_zero, h1]
      refine ⟨fun j hj => by simp at hj, fun h => by omega, by omega, fun hl => by simp at hl⟩

theorem at8_append_left (a b : List UInt8) (j : Nat) (h : j < a.length) : at8 (a ++ b) j = at8 a j := by
  simp [at8, List.getD, List.getElem?_append_left h]

theorem num_enc (n : Int) (r : List UInt8) (h0 : -9223372036854775808 ≤ n) (h1 : n ≤ 9223372036854775807) : num (enc n ++ r) = some (zig n, (enc n).length) := by
  have hu : zig n < 2 * 128 ^ 9 := by have := zig_lt n h0 h1; omega
  have hk := encF_len7 9 (zig n) r hu
  have hl := encF_len 9 (zig n)
  obtain ⟨b1, b2, b3, b4⟩ := encF_bytes 9 (zig n) hu
  have ha := encF_acc 9 (zig n) hu
  have he : enc n = encF 9 (zig n) := rfl
  rw [he]
  have hnb : ¬ bad (encF 9 (zig n) ++ r) := by
    unfold bad
    rw [hk]
    rintro (h | ⟨h, h'⟩ | ⟨h, h'⟩)
    · omega
    · rw [at8_append_left _ _ _ (by omega)] at h'
      have hz : 0 < zig n := by
        by_cases hz : zig n < 128
        · rw [encF_last _ _ hz] at h; simp at h
        · omega
      have := b2 hz
      omega
    · rw [at8_append_left _ _ _ (by omega)] at h'
      have := b4 h
      omega
  rw [num_ok hnb, hk, List.take_left, ha]

/-- A number that was cut short is none. -/
theorem num_cut (n : Int) (j : Nat) (h0 : -9223372036854775808 ≤ n) (h1 : n ≤ 9223372036854775807) (hj : j < (enc n).length) : num ((enc n).take j) = none := by
  have hu : zig n < 2 * 128 ^ 9 := by have := zig_lt n h0 h1; omega
  obtain ⟨b1, _, _, _⟩ := encF_bytes 9 (zig n) hu
  refine num_bad (Or.inl (len7_none _ _ fun i hi hl => ?_))
  have hl' : i < j := by simp at hl; omega
  have e : at8 ((enc n).take j) i = at8 (enc n) i := by simp [at8, List.getD, hl']
  rw [e]
  exact b1 i (by show i + 1 < (enc n).length; omega)

/-- A number of more bytes than it needs is none. -/
theorem num_wide (pre : List UInt8) (hp : pre ≠ []) (h : ∀ j, j < pre.length → 128 ≤ at8 pre j) : num (pre ++ [0]) = none := by
  have h0 : 0 < pre.length := List.length_pos_iff.2 hp
  by_cases hl : pre.length < 10
  · have hk : len7 10 (pre ++ [0]) = pre.length + 1 :=
      len7_at pre.length 10 _ (fun j hj => by rw [at8_append_left _ _ _ hj]; exact h j hj) (by simp) (by simp [at8, List.getD]) hl
    refine num_bad (Or.inr (Or.inl ?_))
    rw [hk]
    exact ⟨by omega, by simp [at8, List.getD]⟩
  · refine num_bad (Or.inl (len7_none _ _ fun j hj hl' => ?_))
    rw [at8_append_left _ _ _ (by omega)]
    exact h j (by omega)

/- a reader as the document has it: none: it failed; else what is left -/
def rNum : Option (List UInt8) → Int × Option (List UInt8)
  | none => (0, none)
  | some bs => match num bs with
    | none => (0, none)
    | some (u, k) => (zag u, some (bs.drop k))
def rCut (n : Int) (bs : List UInt8) : List UInt8 × Option (List UInt8) :=
  if 0 ≤ n ∧ n ≤ bs.length then (bs.take n.toNat, some (bs.drop n.toNat)) else ([], none)
def rText (st : Option (List UInt8)) : List UInt8 × Option (List UInt8) :=
  match (rNum st).2 with
  | none => ([], none)
  | some bs => rCut (rNum st).1 bs
def rFlag : Option (List UInt8) → Bool × Option (List UInt8)
  | none => (false, none)
  | some [] => (false, none)
  | some (b :: r) => if 1 < b.toNat then (false, none) else (b == 1, some r)

theorem rNum_enc (n : Int) (r : List UInt8) (h0 : -9223372036854775808 ≤ n) (h1 : n ≤ 9223372036854775807) : rNum (some (enc n ++ r)) = (n, some r) := by
  simp [rNum, num_enc n r h0 h1, zag_zig]
theorem enc_pos (n : Int) : 0 < (enc n).length := by have := encF_len 9 (zig n); unfold enc; omega
theorem enc_le (n : Int) : (enc n).length ≤ 10 := by have := encF_len 9 (zig n); unfold enc; omega
theorem rText_enc (t r : List UInt8) (h : t.length ≤ 9223372036854775807) : rText (some (enc t.length ++ (t ++ r))) = (t, some r) := by
  unfold rText
  rw [rNum_enc _ _ (by omega) (by omega)]
  simp [rCut]
  omega

end Go.Proofs.YtnbdkojdddplkaaDoor.Bn

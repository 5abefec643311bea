/- Plain mathematics of numbers as bytes: what is written for a number, what is read off bytes, and that the one undoes the other. No program is named here. What a slice of bytes, a writer and a reader are in memory, and what keeps them: laws on worlds alone, no walk. The walks of package bin: small functions, OK, Left, fail: what each call answers and what it leaves in memory. The walk of groups: the number at the beginning of bytes, and how many bytes it has. The walks of a reader: Num, and of bytes.Clone and Read. -/
import Derived.WalkKit
import Derived.Maps.AppendAt
import Derived.Laws.AppendOwnNone
import Derived.Laws.BytesArg
import Derived.Test.YtgknpbgepgmmmaaRows
import Derived.WalkSpells
import Derived.WalkLawsBesides
namespace Go.Proofs.Ytgknpbgepgmmmaa.Bn

def zig (n : Int) : Nat := if n < 0 then (2 * (-1 - n) + 1).toNat else (2 * n).toNat
def zag (u : Nat) : Int := if u % 2 = 1 then -1 - ((u / 2 : Nat) : Int) else ((u / 2 : Nat) : Int)
theorem zag_zig (n : Int) : zag (zig n) = n := by
  unfold zag zig
  by_cases h : n < 0
  · simp only [h, if_true]
    rw [if_pos (by omega)]
    omega
  · simp only [h, if_false]
    rw [if_neg (by omega)]
    omega
theorem zig_lt (n : Int) (h0 : -9223372036854775808 ≤ n) (h1 : n ≤ 9223372036854775807) : zig n < 18446744073709551616 := by
  unfold zig
  by_cases h : n < 0
  · simp only [h, if_true]; omega
  · simp only [h, if_false]; omega

def encF : Nat → Nat → List UInt8
  | 0, u => [UInt8.ofNat u]
  | f + 1, u => if 128 ≤ u then UInt8.ofNat (u % 128 + 128) :: encF f (u / 128) else [UInt8.ofNat u]
def enc (n : Int) : List UInt8 := encF 9 (zig n)

theorem encF_last (f u : Nat) (h : u < 128) : encF f u = [UInt8.ofNat u] := by
  cases f with
  | zero => rfl
  | succ f => unfold encF; rw [if_neg (by omega)]
theorem encF_more (f u : Nat) (h : 128 ≤ u) : encF (f + 1) u = UInt8.ofNat (u % 128 + 128) :: encF f (u / 128) := by
  rw [encF, if_pos h]
theorem div_lt {f u : Nat} (h : u < 2 * 128 ^ (f + 1)) : u / 128 < 2 * 128 ^ f := by
  rw [Nat.pow_succ] at h
  omega

theorem toNat_lo {u : Nat} (h : u < 256) : (UInt8.ofNat u).toNat = u := by
  simp [UInt8.toNat_ofNat']; omega

def acc : List UInt8 → Nat
  | [] => 0
  | b :: r => b.toNat % 128 + 128 * acc r
def len7 : Nat → List UInt8 → Nat
  | 0, _ => 0
  | _ + 1, [] => 0
  | f + 1, b :: r => if 128 ≤ b.toNat then (if len7 f r = 0 then 0 else len7 f r + 1) else 1
def at8 (bs : List UInt8) (j : Nat) : Int := ((bs.getD j 0).toNat : Int)
theorem at8_bd (bs : List UInt8) (j : Nat) : 0 ≤ at8 bs j ∧ at8 bs j ≤ 255 := by
  unfold at8
  have := UInt8.toNat_lt (bs.getD j 0)
  omega
theorem at8_cons_succ (b : UInt8) (r : List UInt8) (j : Nat) : at8 (b :: r) (j + 1) = at8 r j := by simp [at8]
theorem at8_cons_zero (b : UInt8) (r : List UInt8) : at8 (b :: r) 0 = (b.toNat : Int) := by simp [at8]

def bad (bs : List UInt8) : Prop := len7 10 bs = 0 ∨ (1 < len7 10 bs ∧ at8 bs (len7 10 bs - 1) = 0) ∨ (len7 10 bs = 10 ∧ 1 < at8 bs 9)
def badB (bs : List UInt8) : Bool := len7 10 bs == 0 || (decide (1 < len7 10 bs) && decide (at8 bs (len7 10 bs - 1) = 0)) || (len7 10 bs == 10 && decide (1 < at8 bs 9))
theorem badB_iff (bs : List UInt8) : badB bs = true ↔ bad bs := by
  unfold badB bad
  simp [or_assoc]
def num (bs : List UInt8) : Option (Nat × Nat) := if badB bs then none else some (acc (bs.take (len7 10 bs)), len7 10 bs)

theorem num_bad {bs : List UInt8} (h : bad bs) : num bs = none := by
  unfold num; rw [if_pos ((badB_iff bs).2 h)]
theorem num_ok {bs : List UInt8} (h : ¬ bad bs) : num bs = some (acc (bs.take (len7 10 bs)), len7 10 bs) := by
  unfold num
  rw [if_neg (fun e => h ((badB_iff bs).1 e))]

theorem len7_at (i : Nat) : ∀ (f : Nat) (bs : List UInt8), (∀ j, j < i → 128 ≤ at8 bs j) → i < bs.length → at8 bs i < 128 → i < f → len7 f bs = i + 1 := by
  induction i with
  | zero =>
    intro f bs _ hl hi hf
    cases f with
    | zero => omega
    | succ f =>
      cases bs with
      | nil => simp at hl
      | cons b r => rw [at8_cons_zero] at hi; rw [len7, if_neg (by omega)]
  | succ i ih =>
    intro f bs hj hl hi hf
    cases f with
    | zero => omega
    | succ f =>
      cases bs with
      | nil => simp at hl
      | cons b r =>
        have h0 := hj 0 (by omega)
        rw [at8_cons_zero] at h0
        rw [at8_cons_succ] at hi
        have ih' := ih f r (fun j hj' => by have := hj (j + 1) (by omega); rwa [at8_cons_succ] at this) (by simpa using hl) hi (by omega)
        rw [len7, if_pos (by omega), if_neg (by omega), ih']

theorem len7_none : ∀ (f : Nat) (bs : List UInt8), (∀ j, j < f → j < bs.length → 128 ≤ at8 bs j) → len7 f bs = 0
  | 0, _, _ => rfl
  | _ + 1, [], _ => rfl
  | f + 1, b :: r, hj => by
    have h0 := hj 0 (by omega) (by simp)
    rw [at8_cons_zero] at h0
    have ih := len7_none f r (fun j h1 h2 => by have := hj (j + 1) (by omega) (by simpa using h2); rwa [at8_cons_succ] at this)
    simp only [len7]
    rw [if_pos (by omega), if_pos ih]

theorem len7_le : ∀ (f : Nat) (bs : List UInt8), len7 f bs ≤ f ∧ len7 f bs ≤ bs.length
  | 0, _ => by simp [len7]
  | _ + 1, [] => by simp [len7]
  | f + 1, b :: r => by
    have ih := len7_le f r
    simp only [len7, List.length_cons]
    by_cases h : 128 ≤ b.toNat
    · rw [if_pos h]
      by_cases h0 : len7 f r = 0
      · rw [if_pos h0]; omega
      · rw [if_neg h0]; omega
    · rw [if_neg h]; omega

theorem acc_lt : ∀ bs : List UInt8, acc bs < 128 ^ bs.length
  | [] => by simp [acc]
  | b :: r => by
    have ih := acc_lt r
    simp only [acc, List.length_cons, Nat.pow_succ]
    omega
theorem acc_snoc : ∀ (bs : List UInt8) (b : UInt8), acc (bs ++ [b]) = acc bs + (b.toNat % 128) * 128 ^ bs.length
  | [], b => by simp [acc]
  | c :: r, b => by
    have ih := acc_snoc r b
    simp only [List.cons_append, acc, ih, List.length_cons, Nat.pow_succ]
    rw [Nat.mul_add, ← Nat.mul_assoc, Nat.mul_comm 128 (b.toNat % 128), Nat.mul_assoc, Nat.mul_comm 128 (128 ^ r.length)]
    omega
theorem acc_take (bs : List UInt8) (i : Nat) (h : i < bs.length) : (acc (bs.take (i + 1)) : Int) = acc (bs.take i) + (at8 bs i % 128) * 128 ^ i := by
  have e : bs.take (i + 1) = bs.take i ++ [bs[i]] := List.take_succ_eq_append_getElem h
  rw [e, acc_snoc]
  have hl : (bs.take i).length = i := by simp; omega
  have ha : at8 bs i = (bs[i].toNat : Int) := by simp [at8, List.getD, List.getElem?_eq_getElem h]
  rw [hl, ha]
  push_cast
  rfl
theorem acc_take_lt (bs : List UInt8) (i : Nat) : acc (bs.take i) < 128 ^ i := by
  have h := acc_lt (bs.take i)
  have hl : (bs.take i).length ≤ i := List.length_take_le _ _
  exact Nat.lt_of_lt_of_le h (Nat.pow_le_pow_right (by omega) hl)

/- what is written is read -/
theorem encF_len : ∀ (f u : Nat), 1 ≤ (encF f u).length ∧ (encF f u).length ≤ f + 1
  | 0, u => by simp [encF]
  | f + 1, u => by
    by_cases h : 128 ≤ u
    · rw [encF_more f u h]; have := encF_len f (u / 128); simp; omega
    · rw [encF_last _ _ (by omega)]; simp
theorem encF_len7 : ∀ (f u : Nat) (r : List UInt8), u < 2 * 128 ^ f → len7 (f + 1) (encF f u ++ r) = (encF f u).length
  | 0, u, r, hu => by
    have e : encF 0 u = [UInt8.ofNat u] := rfl
    rw [e]
    have h1 : (UInt8.ofNat u).toNat = u := toNat_lo (by omega)
    simp only [List.cons_append, List.nil_append, len7, List.length_cons, List.length_nil]
    rw [h1, if_neg (by omega)]
  | f + 1, u, r, hu => by
    by_cases h : 128 ≤ u
    · have ih := encF_len7 f (u / 128) r (div_lt hu)
      have hp := encF_len f (u / 128)
      rw [encF_more f u h]
      have h1 : (UInt8.ofNat (u % 128 + 128)).toNat = u % 128 + 128 := toNat_lo (by omega)
      rw [List.cons_append, len7, h1, if_pos (by omega), ih, if_neg (by omega), List.length_cons]
    · rw [encF_last _ _ (by omega)]
      have h1 : (UInt8.ofNat u).toNat = u := toNat_lo (by omega)
      rw [List.cons_append, len7, h1, if_neg (by omega)]; rfl
theorem encF_acc : ∀ (f u : Nat), u < 2 * 128 ^ f → acc (encF f u) = u
  | 0, u, hu => by
    have h1 : (UInt8.ofNat u).toNat = u := toNat_lo (by omega)
    simp only [encF, acc, h1]; omega
  | f + 1, u, hu => by
    by_cases h : 128 ≤ u
    · have ih := encF_acc f (u / 128) (div_lt hu)
      have h1 : (UInt8.ofNat (u % 128 + 128)).toNat = u % 128 + 128 := toNat_lo (by omega)
      rw [encF_more f u h, acc, ih, h1]; omega
    · have h1 : (UInt8.ofNat u).toNat = u := toNat_lo (by omega)
      rw [encF_last _ _ (by omega), acc, acc, h1]; omega
/-- All bytes but the last bear the mark; the last is not 0 where the number is not; where all places are taken it is at most 1. -/
theorem encF_bytes : ∀ (f u : Nat), u < 2 * 128 ^ f → (∀ j, j + 1 < (encF f u).length → 128 ≤ at8 (encF f u) j) ∧ (0 < u → 0 < at8 (encF f u) ((encF f u).length - 1)) ∧ at8 (encF f u) ((encF f u).length - 1) < 128 ∧
      ((encF f u).length = f + 1 → at8 (encF f u) f ≤ 1)
  | 0, u, hu => by
    have h1 : (UInt8.ofNat u).toNat = u := toNat_lo (by omega)
    have e : encF 0 u = [UInt8.ofNat u] := rfl
    rw [e]
    have e0 : ([UInt8.ofNat u] : List UInt8).length - 1 = 0 := rfl
    rw [e0, at8_cons_zero, h1]
    refine ⟨fun j hj => by simp at hj, fun h => by omega, by omega, fun _ => by omega⟩
  | f + 1, u, hu => by
    by_cases h : 128 ≤ u
    · obtain ⟨i1, i2, i3, i4⟩ := encF_bytes f (u / 128) (div_lt hu)
      have hp := encF_len f (u / 128)
      have h1 : (UInt8.ofNat (u % 128 + 128)).toNat = u % 128 + 128 := toNat_lo (by omega)
      rw [encF_more f u h, List.length_cons]
      have e : (encF f (u / 128)).length + 1 - 1 = ((encF f (u / 128)).length - 1) + 1 := by omega
      rw [e, at8_cons_succ]
      refine ⟨fun j hj => ?_, fun _ => i2 (by omega), i3, fun hl => ?_⟩
      · cases j with
        | zero => rw [at8_cons_zero, h1]; omega
        | succ j => rw [at8_cons_succ]; exact i1 j (by omega)
      · rw [at8_cons_succ]; exact i4 (by omega)
    · rw [encF_last _ _ (by omega)]
      have h1 : (UInt8.ofNat u).toNat = u := toNat_lo (by omega)
      have e0 : ([UInt8.ofNat u] : List UInt8).length - 1 = 0 := rfl
      rw [e0, at8_cons_zero, h1]
      refine ⟨fun j hj => by simp at hj, fun h => by omega, by omega, fun hl => by simp at hl⟩

theorem at8_append_left (a b : List UInt8) (j : Nat) (h : j < a.length) : at8 (a ++ b) j = at8 a j := by
  simp [at8, List.getD, List.getElem?_append_left h]

theorem num_enc (n : Int) (r : List UInt8) (h0 : -9223372036854775808 ≤ n) (h1 : n ≤ 9223372036854775807) : num (enc n ++ r) = some (zig n, (enc n).length) := by
  have hu : zig n < 2 * 128 ^ 9 := by have := zig_lt n h0 h1; omega
  have hk := encF_len7 9 (zig n) r hu
  have hl := encF_len 9 (zig n)
  obtain ⟨b1, b2, b3, b4⟩ := encF_bytes 9 (zig n) hu
  have ha := encF_acc 9 (zig n) hu
  have he : enc n = encF 9 (zig n) := rfl
  rw [he]
  have hnb : ¬ bad (encF 9 (zig n) ++ r) := by
    unfold bad
    rw [hk]
    rintro (h | ⟨h, h'⟩ | ⟨h, h'⟩)
    · omega
    · rw [at8_append_left _ _ _ (by omega)] at h'
      have hz : 0 < zig n := by
        by_cases hz : zig n < 128
        · rw [encF_last _ _ hz] at h; simp at h
        · omega
      have := b2 hz
      omega
    · rw [at8_append_left _ _ _ (by omega)] at h'
      have := b4 h
      omega
  rw [num_ok hnb, hk, List.take_left, ha]

/-- A number that was cut short is none. -/
theorem num_cut (n : Int) (j : Nat) (h0 : -9223372036854775808 ≤ n) (h1 : n ≤ 9223372036854775807) (hj : j < (enc n).length) : num ((enc n).take j) = none := by
  have hu : zig n < 2 * 128 ^ 9 := by have := zig_lt n h0 h1; omega
  obtain ⟨b1, _, _, _⟩ := encF_bytes 9 (zig n) hu
  refine num_bad (Or.inl (len7_none _ _ fun i hi hl => ?_))
  have hl' : i < j := by simp at hl; omega
  have e : at8 ((enc n).take j) i = at8 (enc n) i := by simp [at8, List.getD, hl']
  rw [e]
  exact b1 i (by show i + 1 < (enc n).length; omega)

/-- A number of more bytes than it needs is none. -/
theorem num_wide (pre : List UInt8) (hp : pre ≠ []) (h : ∀ j, j < pre.length → 128 ≤ at8 pre j) : num (pre ++ [0]) = none := by
  have h0 : 0 < pre.length := List.length_pos_iff.2 hp
  by_cases hl : pre.length < 10
  · have hk : len7 10 (pre ++ [0]) = pre.length + 1 :=
      len7_at pre.length 10 _ (fun j hj => by rw [at8_append_left _ _ _ hj]; exact h j hj) (by simp) (by simp [at8, List.getD]) hl
    refine num_bad (Or.inr (Or.inl ?_))
    rw [hk]
    exact ⟨by omega, by simp [at8, List.getD]⟩
  · refine num_bad (Or.inl (len7_none _ _ fun j hj hl' => ?_))
    rw [at8_append_left _ _ _ (by omega)]
    exact h j (by omega)

/- a reader as the document has it: none: it failed; else what is left -/
def rNum : Option (List UInt8) → Int × Option (List UInt8)
  | none => (0, none)
  | some bs => match num bs with
    | none => (0, none)
    | some (u, k) => (zag u, some (bs.drop k))
def rCut (n : Int) (bs : List UInt8) : List UInt8 × Option (List UInt8) :=
  if 0 ≤ n ∧ n ≤ bs.length then (bs.take n.toNat, some (bs.drop n.toNat)) else ([], none)
def rText (st : Option (List UInt8)) : List UInt8 × Option (List UInt8) :=
  match (rNum st).2 with
  | none => ([], none)
  | some bs => rCut (rNum st).1 bs
def rFlag : Option (List UInt8) → Bool × Option (List UInt8)
  | none => (false, none)
  | some [] => (false, none)
  | some (b :: r) => if 1 < b.toNat then (false, none) else (b == 1, some r)

theorem rNum_enc (n : Int) (r : List UInt8) (h0 : -9223372036854775808 ≤ n) (h1 : n ≤ 9223372036854775807) : rNum (some (enc n ++ r)) = (n, some r) := by
  simp [rNum, num_enc n r h0 h1, zag_zig]
theorem enc_pos (n : Int) : 0 < (enc n).length := by have := encF_len 9 (zig n); unfold enc; omega
theorem enc_le (n : Int) : (enc n).length ≤ 10 := by have := encF_len 9 (zig n); unfold enc; omega
theorem rText_enc (t r : List UInt8) (h : t.length ≤ 9223372036854775807) : rText (some (enc t.length ++ (t ++ r))) = (t, some r) := by
  unfold rText
  rw [rNum_enc _ _ (by omega) (by omega)]
  simp [rCut]
  omega

end Go.Proofs.Ytgknpbgepgmmmaa.Bn
namespace Go.Proofs.Ytgknpbgepgmmmaa.Bn
open Go.RowKit

def cells8 (bs : List UInt8) : List Value := bs.map fun b => .int .u8 (b.toNat : Int)
theorem cells8_len (bs : List UInt8) : (cells8 bs).length = bs.length := by simp [cells8]
theorem cells8_at (bs : List UInt8) (j : Nat) (h : j < bs.length) : (cells8 bs)[j]? = some (.int .u8 (at8 bs j)) := by
  simp [cells8, at8, List.getD, List.getElem?_eq_getElem h]
theorem cells8_one (bs : List UInt8) : ∀ u ∈ cells8 bs, u.oneCell' = true := by
  intro u hu
  obtain ⟨_, _, rfl⟩ := List.mem_map.1 hu
  rfl
theorem cells8_append (a b : List UInt8) : cells8 (a ++ b) = cells8 a ++ cells8 b := by simp [cells8]

/-- A slice value that reads as these bytes. -/
def Sl (w : World) (v : Value) (bs : List UInt8) : Prop :=
  ∃ ao cap, v = .slice ao bs.length cap ∧ bs.length ≤ cap ∧ cap ≤ maxLen ∧ (ao = none → cap = 0) ∧
    (0 < bs.length → ∃ g off, ao = some ⟨g, off, none⟩ ∧ ∀ j, j < bs.length → w.cell? ⟨g, off + j, none⟩ = some (.int .u8 (at8 bs j)))

theorem Sl.nil (w : World) : Sl w (.slice none 0 0) [] := ⟨none, 0, rfl, Nat.le_refl _, by simp [maxLen], fun _ => rfl, fun h => by simp at h⟩

theorem Sl.kept {w w' : World} {v : Value} {bs : List UInt8} (h : Sl w v bs) (hb : ∀ g o n, w.cell? ⟨g, o, none⟩ = some (.int .u8 n) → w'.heap[g]? = w.heap[g]?) : Sl w' v bs := by
  obtain ⟨ao, cap, hv, h1, h2, h3, h4⟩ := h
  refine ⟨ao, cap, hv, h1, h2, h3, fun hp => ?_⟩
  obtain ⟨g, off, ha, hc⟩ := h4 hp
  exact ⟨g, off, ha, fun j hj => (World.cell?_of_block (w := w) (a := ⟨g, off + j, none⟩) (hb g (off + j) _ (hc j hj))).trans (hc j hj)⟩

theorem cell_lt {w : World} {g o : Nat} {u : Value} (h : w.cell? ⟨g, o, none⟩ = some u) : g < w.heap.size := World.block_lt_of_cell? w ⟨g, o, none⟩ h

/-- What is below B stays, whatever is done from B on. -/
theorem Sl.below {w w' : World} {v : Value} {bs : List UInt8} (h : Sl w v bs) (hb : Below w.heap.size w w') : Sl w' v bs :=
  h.kept fun g _ _ hc => hb.block g (cell_lt hc)

theorem Sl.alloc {w : World} {v : Value} {bs : List UInt8} (h : Sl w v bs) (o : Obj) : Sl (w.alloc o) v bs :=
  h.below ((Below.refl _ _).alloc (Nat.le_refl _) o)

/-- The front of a slice. -/
theorem Sl.take {w : World} {ao : Option Addr} {len cap : Nat} {bs : List UInt8} (h : Sl w (.slice ao len cap) bs) (k : Nat) (hk : k ≤ len) : Sl w (.slice ao k cap) (bs.take k) := by
  obtain ⟨ao', cap', hv, h1, h2, h3, h4⟩ := h
  simp only [Value.slice.injEq] at hv
  obtain ⟨rfl, hl, rfl⟩ := hv
  have hlk : (bs.take k).length = k := by simp; omega
  refine ⟨ao, cap, by rw [hlk], by omega, h2, h3, fun hp => ?_⟩
  obtain ⟨g, off, ha, hc⟩ := h4 (by omega)
  refine ⟨g, off, ha, fun j hj => ?_⟩
  rw [hlk] at hj
  rw [hc j (by omega)]
  simp [at8, List.getD, hj]

/-- What is behind the front of a slice. -/
theorem Sl.drop {w : World} {ao : Option Addr} {len cap : Nat} {bs : List UInt8} (h : Sl w (.slice ao len cap) bs) (k : Nat) (hk : k ≤ len) (ao' : Option Addr) (hao : cap ≠ k → ao' = ao.map (·.add k)) (hz : cap = k → ao' = ao) :
    Sl w (.slice ao' (len - k) (cap - k)) (bs.drop k) := by
  obtain ⟨ao2, cap', hv, h1, h2, h3, h4⟩ := h
  simp only [Value.slice.injEq] at hv
  obtain ⟨rfl, hl, rfl⟩ := hv
  have hlk : (bs.drop k).length = len - k := by simp; omega
  refine ⟨ao', cap - k, by rw [hlk], by omega, by omega, fun hn => ?_, fun hp => ?_⟩
  · by_cases hc : cap = k
    · omega
    · rw [hao hc] at hn
      have := h3 (by cases ao <;> simp_all)
      omega
  · have hc : cap ≠ k := by omega
    obtain ⟨g, off, ha, hcell⟩ := h4 (by omega)
    refine ⟨g, off + k, ?_, fun j hj => ?_⟩
    · rw [hao hc, ha]; simp [Addr.add_lit]
    · rw [Nat.add_assoc, hcell (k + j) (by omega)]
      simp [at8, List.getD]

theorem Sl.len {w : World} {ao : Option Addr} {len cap : Nat} {bs : List UInt8} (h : Sl w (.slice ao len cap) bs) : len = bs.length := by
  obtain ⟨_, _, hv, _⟩ := h
  simp only [Value.slice.injEq] at hv
  exact hv.2.1
theorem Sl.shape {w : World} {v : Value} {bs : List UInt8} (h : Sl w v bs) : ∃ ao cap, v = .slice ao bs.length cap ∧ bs.length ≤ cap ∧ cap ≤ maxLen := by
  obtain ⟨ao, cap, hv, h1, h2, _⟩ := h
  exact ⟨ao, cap, hv, h1, h2⟩
theorem Sl.cell {w : World} {ao : Option Addr} {len cap : Nat} {bs : List UInt8} (h : Sl w (.slice ao len cap) bs) (hp : 0 < len) : ∃ g off, ao = some ⟨g, off, none⟩ ∧ ∀ j, j < len → w.cell? ⟨g, off + j, none⟩ = some (.int .u8 (at8 bs j)) := by
  obtain ⟨ao2, cap', hv, h1, h2, h3, h4⟩ := h
  simp only [Value.slice.injEq] at hv
  obtain ⟨rfl, hl, rfl⟩ := hv
  rw [hl] at hp ⊢
  exact h4 hp

/-- An owned row reads as its bytes. -/
theorem Sl.of_own {w : World} {base : Nat} {v : Value} {bs : List UInt8} (h : w.ownsRow base 5 1 v bs.length (cells8 bs)) : Sl w v bs := by
  rcases h.2 with ⟨rfl, h0⟩ | ⟨g, cap, cur, rfl, _, hg, hn, hc, hs, ht⟩
  · have : bs = [] := List.eq_nil_of_length_eq_zero h0
    subst this
    exact Sl.nil w
  · refine ⟨_, cap, rfl, hn, hc, fun e => by simp at e, fun _ => ⟨g, 0, rfl, fun j hj => ?_⟩⟩
    rw [Nat.zero_add]
    rw [h.cellAt j (by omega), cells8_at _ _ hj]

theorem str_of_sl {P : Program} {w : World} {v : Value} {bs : List UInt8} (h : Sl w v bs) (src e dst : TypeId) (hs : P.underlying src = some (.slice e)) (he : P.underlying e = some (.int .u8)) (hd : P.underlying dst = some .string) :
    (convert src dst v).run P w = .ok (.string ⟨bs.toArray⟩) w := by
  obtain ⟨ao, cap, rfl, h1, h2, h3, h4⟩ := h
  by_cases hp : 0 < bs.length
  · obtain ⟨g, off, rfl, hc⟩ := h4 hp
    have := run_convert_bytes_arg (P := P) w src e hs he g off bs.length cap (bs.map fun b => (b.toNat : Int)) (by simp) (fun i hi => by
      rw [hc i hi]; simp [at8, List.getD, List.getElem?_eq_getElem hi]) dst hd
    rw [this]
    congr 1
    congr 1
    unfold strOfNums
    simp only [List.map_map, ByteArray.mk.injEq]
    congr 1
    exact (List.map_congr_left (g := id) fun b _ => by simp).trans (List.map_id _)
  · have : bs = [] := List.eq_nil_of_length_eq_zero (by omega)
    subst this
    cases ao with
    | none => rw [run_convert_bytes_nil (P := P) w src e hs he _ _ dst hd]; rfl
    | some a =>
      rw [List.length_nil, run_convert_bytes_string w src dst e _ _ cap hs he hd, run_bytesToString w a 0 cap [] (by simp [loadCells, loadCellsFrom])]
      rfl

/-- A writer: the block of its one field, and the row that the field owns. -/
def Wr (w : World) (T base B : Nat) (v : Value) (bs : List UInt8) : Prop := w.heap[B]? = some (.cells #[v] T (0, 0)) ∧ w.ownsRow base 5 1 v bs.length (cells8 bs)

/-- Nothing old has turned but the block B and one row. -/
structure Wrote (w w' : World) (B : Nat) (row : Option Nat) : Prop where
  os : w'.os = w.os
  tape : w'.tape = w.tape
  output : w'.output = w.output
  size : w.heap.size ≤ w'.heap.size
  block : ∀ k, k < w.heap.size → k ≠ B → some k ≠ row → w'.heap[k]? = w.heap[k]?

/-- The row is the old one, or a new one. -/
def Moved (w : World) (v v' : Value) : Prop := v'.ownBlock = v.ownBlock ∨ ∃ k, v'.ownBlock = some k ∧ w.heap.size ≤ k

theorem Moved.refl (w : World) (v : Value) : Moved w v v := Or.inl rfl
theorem Wrote.refl (w : World) (B : Nat) (row : Option Nat) : Wrote w w B row := ⟨rfl, rfl, rfl, Nat.le_refl _, fun _ _ _ _ => rfl⟩
theorem Moved.trans {a b : World} {u v x : Value} (h : Moved a u v) (k : Moved b v x) (hs : a.heap.size ≤ b.heap.size) : Moved a u x := by
  rcases k with k | ⟨g, k1, k2⟩
  · rcases h with h | ⟨g, h1, h2⟩
    · exact Or.inl (k.trans h)
    · exact Or.inr ⟨g, k.trans h1, h2⟩
  · exact Or.inr ⟨g, k1, by omega⟩
theorem Wrote.trans {a b c : World} {B : Nat} {u v : Value} (h : Wrote a b B u.ownBlock) (hm : Moved a u v) (k : Wrote b c B v.ownBlock) : Wrote a c B u.ownBlock :=
  ⟨k.os.trans h.os, k.tape.trans h.tape, k.output.trans h.output, Nat.le_trans h.size k.size, fun i hi hB hr => by
    refine (k.block i (Nat.lt_of_lt_of_le hi h.size) hB ?_).trans (h.block i hi hB hr)
    rcases hm with hm | ⟨g, h1, h2⟩
    · rw [hm]; exact hr
    · rw [h1]; intro e; simp at e; omega⟩
theorem Wrote.below {w w' : World} {B H : Nat} {row : Option Nat} (h : Wrote w w' B row) (hH : H ≤ w.heap.size) (hB : H ≤ B) (hr : ∀ k, row = some k → H ≤ k) : Below H w w' :=
  ⟨h.os, h.tape, h.output, h.size, fun k hk => h.block k (by omega) (by omega) (fun e => by have := hr k e.symm; omega)⟩
theorem Sl.wrote {w w' : World} {B : Nat} {row : Option Nat} {v : Value} {bs : List UInt8} (h : Sl w v bs) (hw : Wrote w w' B row) {u : Value} {T : TypeId} (hB : w.heap[B]? = some (.cells #[u] T (0, 0))) (hu : ∀ n, u ≠ .int .u8 n)
    (hr : ∀ g o n, w.cell? ⟨g, o, none⟩ = some (.int .u8 n) → g < w.heap.size → Sl w v bs → some g = row → w'.heap[g]? = w.heap[g]?) : Sl w' v bs :=
  h.kept fun g o n hc => by
    by_cases hg : some g = row
    · exact hr g o n hc (cell_lt hc) h hg
    · refine hw.block g (cell_lt hc) (fun e => ?_) hg
      subst e
      rw [cell_of_row w g o _ T (0, 0) hB] at hc
      cases o with
      | zero => simp at hc; exact hu n hc
      | succ o => simp at hc

theorem Wr.sl {w : World} {T base B : Nat} {v : Value} {bs : List UInt8} (h : Wr w T base B v bs) : Sl w v bs := Sl.of_own h.2
theorem Wr.lt {w : World} {T base B : Nat} {v : Value} {bs : List UInt8} (h : Wr w T base B v bs) : B < w.heap.size := lt_of_block h.1
theorem Wr.ne {w : World} {T base B : Nat} {v : Value} {bs : List UInt8} (h : Wr w T base B v bs) (hT : T ≠ 5) : some B ≠ v.ownBlock := by
  intro e
  rcases h.2.2 with ⟨rfl, _⟩ | ⟨g, cap, cur, rfl, _, hg, _⟩
  · simp [Value.ownBlock] at e
  · simp [Value.ownBlock] at e
    subst e
    have := h.1
    rw [hg] at this
    simp at this
    exact hT this.2.symm

/-- Behind an append onto the field and the store of what it gave. -/
theorem Wr.put {w w1 : World} {T base B : Nat} {v v' : Value} {bs news : List UInt8} (h : Wr w T base B v bs) (hT : T ≠ 5) (hown : w1.ownsRow base 5 1 v' (bs.length + news.length) (cells8 bs ++ cells8 news)) (hg : w.grownBy w1 v.ownBlock)
    (hm : Moved w v v') : Wr (w1.setCell ⟨B, 0, none⟩ v') T base B v' (bs ++ news) ∧ Wrote w (w1.setCell ⟨B, 0, none⟩ v') B v.ownBlock ∧ Moved w v v' := by
  have hB1 : w1.heap[B]? = some (.cells #[v] T (0, 0)) := by rw [hg.block B h.lt (h.ne hT)]; exact h.1
  have hne : ∀ g cur, w1.heap[g]? = some (.cells cur 5 (0, 0)) → g ≠ B := fun g cur hh e => by
    subst e; rw [hB1] at hh; simp at hh; exact hT hh.2
  refine ⟨⟨one_setCell hB1, ?_⟩, ⟨hg.os, hg.tape, hg.output, by simpa [World.setCell] using hg.size, fun k hk hkB hkr => ?_⟩, hm⟩
  · rw [List.length_append, cells8_append]
    obtain ⟨g1, g2⟩ := hown
    refine ⟨g1, ?_⟩
    rcases g2 with g2 | ⟨g, cap, cur, e1, e2, e3, e4⟩
    · exact Or.inl g2
    · exact Or.inr ⟨g, cap, cur, e1, e2, by rw [heap_setCell_other _ _ _ _ (show g ≠ B from hne g cur e3)]; exact e3, e4⟩
  · rw [heap_setCell_other _ _ _ _ (show k ≠ B from hkB)]
    exact hg.block k hk hkr

/-- A slice whose place is known, if it has one. -/
def Pl (v : Value) : Prop := v = .slice none 0 0 ∨ ∃ g off n cap, v = .slice (some ⟨g, off, none⟩) n cap
theorem Pl.of_own {w : World} {base : Nat} {v : Value} {bs : List UInt8} (h : w.ownsRow base 5 1 v bs.length (cells8 bs)) : Pl v := by
  rcases h.2 with ⟨rfl, h0⟩ | ⟨g, cap, cur, rfl, _⟩
  · exact Or.inl rfl
  · exact Or.inr ⟨g, 0, _, cap, rfl⟩

/-- A reader (or the document's): the block of its two fields: what is left, and whether it failed. -/
def Rd (w : World) (T B : Nat) (st : Option (List UInt8)) : Prop := ∃ v, w.heap[B]? = some (.cells #[v, .bool st.isNone] T (0, 0)) ∧ Sl w v (st.getD []) ∧ Pl v ∧ (st.getD []).length ≤ 140737488355328

theorem Rd.lt {w : World} {T B : Nat} {st : Option (List UInt8)} (h : Rd w T B st) : B < w.heap.size := by
  obtain ⟨v, h, _⟩ := h
  exact lt_of_block h

theorem Sl.not_block {w : World} {T B : Nat} {u : Value} {b : Bool} {us : List UInt8} (hB : w.heap[B]? = some (.cells #[u, .bool b] T (0, 0))) (hu : Sl w u us) {g o : Nat} {n : Int} (hc : w.cell? ⟨g, o, none⟩ = some (.int .u8 n)) : g ≠ B := by
  intro e
  subst e
  obtain ⟨ao, cap, rfl, _⟩ := hu.shape
  rw [cell_of_row w g o _ T (0, 0) hB] at hc
  match o, hc with
  | 0, hc => simp at hc
  | 1, hc => simp at hc
  | o + 2, hc => simp at hc

/-- A slice of bytes stays while a reader's block is written. -/
theorem Sl.rd {w w' : World} {T B : Nat} {st : Option (List UInt8)} {v : Value} {bs : List UInt8} (h : Sl w v bs) (hr : Rd w T B st) (hg : w.grownBy w' (some B)) : Sl w' v bs := by
  obtain ⟨u, hB, hu, _⟩ := hr
  refine h.kept fun g o n hc => hg.block g (cell_lt hc) (fun e => ?_)
  simp at e
  exact Sl.not_block hB hu hc e

/-- Another reader stays while a reader's block is written. -/
theorem Rd.rd {w w' : World} {T T' B B' : Nat} {st st' : Option (List UInt8)} (h : Rd w T B st) (hr : Rd w T' B' st') (hne : B ≠ B') (hg : w.grownBy w' (some B')) : Rd w' T B st := by
  obtain ⟨u, hB, hu, hp, hl⟩ := h
  exact ⟨u, by rw [hg.block B (lt_of_block hB) (by simp; omega)]; exact hB, hu.rd hr hg, hp, hl⟩
theorem Rd.below {w w' : World} {T B : Nat} {st : Option (List UInt8)} (h : Rd w T B st) (hb : Below w.heap.size w w') : Rd w' T B st := by
  obtain ⟨u, hB, hu, hp, hl⟩ := h
  exact ⟨u, by rw [hb.block B (lt_of_block hB)]; exact hB, hu.below hb, hp, hl⟩

theorem two_cells {w : World} {B T : Nat} {v u : Value} (h : w.heap[B]? = some (.cells #[v, u] T (0, 0))) : w.cell? ⟨B, 0, none⟩ = some v ∧ w.cell? ⟨B, 1, none⟩ = some u ∧ w.frozen? ⟨B, 0, none⟩ = false ∧ w.frozen? ⟨B, 1, none⟩ = false :=
  ⟨by rw [cell_of_row w B 0 _ T (0, 0) h]; rfl, by rw [cell_of_row w B 1 _ T (0, 0) h]; rfl, frozen_of_row w B 0 _ T h, frozen_of_row w B 1 _ T h⟩
theorem set_first {w : World} {B T : Nat} {v u x : Value} (h : w.heap[B]? = some (.cells #[v, u] T (0, 0))) : (w.setCell ⟨B, 0, none⟩ x).heap[B]? = some (.cells #[x, u] T (0, 0)) := by
  rw [heap_setCell_same w B 0 _ T x h]; rfl
theorem set_second {w : World} {B T : Nat} {v u x : Value} (h : w.heap[B]? = some (.cells #[v, u] T (0, 0))) : (w.setCell ⟨B, 1, none⟩ x).heap[B]? = some (.cells #[v, x] T (0, 0)) := by
  rw [heap_setCell_same w B 1 _ T x h]; rfl
theorem grown_set {w w' : World} {B o : Nat} {x : Value} (h : w.grownBy w' (some B)) : w.grownBy (w'.setCell ⟨B, o, none⟩ x) (some B) :=
  ⟨h.os, h.tape, h.output, by simpa [World.setCell] using h.size, fun k hk hne => by
    rw [heap_setCell_other _ _ _ _ (show k ≠ B from fun e => hne (by rw [e]))]; exact h.block k hk hne⟩
theorem grown_refl (w : World) (row : Option Nat) : w.grownBy w row := ⟨rfl, rfl, rfl, Nat.le_refl _, fun _ _ _ => rfl⟩

/-- A reader whose first field is turned. -/
theorem Rd.put {w : World} {T B : Nat} {v x : Value} {st bs : List UInt8} (hB : w.heap[B]? = some (.cells #[v, .bool false] T (0, 0))) (hv : Sl w v st) (hx : Sl w x bs) (hp : Pl x) (hl : bs.length ≤ 140737488355328) :
    Rd (w.setCell ⟨B, 0, none⟩ x) T B (some bs) ∧ w.grownBy (w.setCell ⟨B, 0, none⟩ x) (some B) := by
  have hg := grown_set (o := 0) (x := x) (grown_refl w (some B))
  refine ⟨⟨x, set_first hB, hx.kept fun g o n hc => hg.block g (cell_lt hc) (fun e => ?_), hp, hl⟩, hg⟩
  simp at e
  exact Sl.not_block hB hv hc e

/-- The slice that is left behind k bytes, as the walk writes it. -/
theorem sl_rest {w : World} {g off len cap : Nat} {bs : List UInt8} (h : Sl w (.slice (some ⟨g, off, none⟩) len cap) bs) (k : Nat) (hk : k ≤ len) :
    Sl w (.slice (if cap = k then some ⟨g, off, none⟩ else some ⟨g, off + k, none⟩) (len - k) (cap - k)) (bs.drop k) ∧ Pl (.slice (if cap = k then some ⟨g, off, none⟩ else some ⟨g, off + k, none⟩) (len - k) (cap - k)) := by
  refine ⟨h.drop k hk _ (fun hc => by rw [if_neg hc]; simp [Addr.add_lit]) (fun hc => by rw [if_pos hc]), ?_⟩
  split
  · exact Or.inr ⟨_, _, _, _, rfl⟩
  · exact Or.inr ⟨_, _, _, _, rfl⟩

theorem Below.of_grown {w w' : World} {B H : Nat} (h : w.grownBy w' (some B)) (hH : H ≤ w.heap.size) (hB : H ≤ B) : Below H w w' :=
  (Below.refl H w).grown h hH (fun k hk => by simp at hk; omega)

end Go.Proofs.Ytgknpbgepgmmmaa.Bn
namespace Go.Proofs.Ytgknpbgepgmmmaa.Bn
open Go.RowKit

set_option maxHeartbeats 400000 in
theorem fold_any (n : Int) (w : World) (h0 : -9223372036854775808 ≤ n) (h1 : n ≤ 9223372036854775807) :
    Calls Try.prog 60 #[.int .i64 n] w fun e w' => e = .returned (.int .u64 (zig n)) ∧ w' = w := by
  by_cases h : n < 0
  · have hz : ((zig n : Nat) : Int) = (-1 - n) * 2 + 1 := by unfold zig; rw [if_pos h]; omega
    rw [hz]
    clear hz
    go_enter Try.func60, Try.ntmps60
    go_wp2
    go_ret
    exact ⟨rfl, rfl⟩
  · have hz : ((zig n : Nat) : Int) = n * 2 := by unfold zig; rw [if_neg h]; omega
    rw [hz]
    clear hz
    have h' : 0 ≤ n := by omega
    go_enter Try.func60, Try.ntmps60
    go_wp2
    go_ret
    exact ⟨rfl, rfl⟩

set_option maxHeartbeats 400000 in
theorem unfold_any (u : Nat) (w : World) (h1 : (u : Int) < 18446744073709551616) :
    Calls Try.prog 66 #[.int .u64 u] w fun e w' => e = .returned (.int .i64 (zag u)) ∧ w' = w := by
  have h0 : 0 ≤ (u : Int) := by omega
  by_cases h : u % 2 = 1
  · have hz : zag u = -1 - (u : Int) / 2 := by unfold zag; rw [if_pos h]; omega
    rw [hz]
    have hb : ((u : Int) % 2 == 1) = true := by rw [beq_iff_eq]; omega
    clear hz h
    go_enter Try.func66, Try.ntmps66
    go_wp2
    go_ret
    exact ⟨rfl, rfl⟩
  · have hz : zag u = (u : Int) / 2 := by unfold zag; rw [if_neg h]; omega
    rw [hz]
    have hb : ((u : Int) % 2 == 1) = false := by rw [beq_eq_false_iff_ne]; omega
    clear hz h
    go_enter Try.func66, Try.ntmps66
    go_wp2
    go_ret
    exact ⟨rfl, rfl⟩

set_option maxHeartbeats 400000 in
theorem fail_any (B : Nat) (st : Option (List UInt8)) (w : World) (h : Rd w 108 B st) :
    Calls Try.prog 65 #[.pointer (some ⟨B, 0, none⟩)] w fun e w' => e = .returned (.tuple #[]) ∧ Rd w' 108 B none ∧ w.grownBy w' (some B) := by
  obtain ⟨v, hB, hv, _⟩ := h
  obtain ⟨c0, c1, f0, f1⟩ := two_cells hB
  have hfin : Rd ((w.setCell ⟨B, 0, none⟩ (.slice none 0 0)).setCell ⟨B, 1, none⟩ (.bool true)) 108 B none ∧ w.grownBy ((w.setCell ⟨B, 0, none⟩ (.slice none 0 0)).setCell ⟨B, 1, none⟩ (.bool true)) (some B) :=
    ⟨⟨_, set_second (set_first hB), Sl.nil _, Or.inl rfl, by simp⟩, grown_set (grown_set (grown_refl _ _))⟩
  clear hB hv
  go_enter Try.func65, Try.ntmps65
  go_wp2
  go_end0
  exact ⟨rfl, hfin⟩

set_option maxHeartbeats 400000 in
theorem ok_any (B : Nat) (st : Option (List UInt8)) (w : World) (h : Rd w 108 B st) :
    Calls Try.prog 63 #[.pointer (some ⟨B, 0, none⟩)] w fun e w' => e = .returned (.bool st.isSome) ∧ w' = w := by
  obtain ⟨v, hB, hv, _⟩ := h
  obtain ⟨c0, c1, f0, f1⟩ := two_cells hB
  clear hB hv
  go_enter Try.func63, Try.ntmps63
  go_wp2
  go_ret
  exact ⟨by simp, rfl⟩

set_option maxHeartbeats 400000 in
theorem ok_nil (w : World) :
    Calls Try.prog 63 #[.pointer none] w fun e w' => e = .returned (.bool false) ∧ w' = w := by
  go_enter Try.func63, Try.ntmps63
  go_wp2
  go_ret
  exact ⟨rfl, rfl⟩

set_option maxHeartbeats 400000 in
theorem left_any (B : Nat) (st : Option (List UInt8)) (w : World) (h : Rd w 108 B st) :
    Calls Try.prog 68 #[.pointer (some ⟨B, 0, none⟩)] w fun e w' => e = .returned (.int .i64 (st.getD []).length) ∧ w' = w := by
  obtain ⟨v, hB, hv, _⟩ := h
  obtain ⟨ao, cap, rfl, _⟩ := hv.shape
  obtain ⟨c0, c1, f0, f1⟩ := two_cells hB
  clear hB hv
  go_enter Try.func68, Try.ntmps68
  go_wp2
  go_ret
  exact ⟨rfl, rfl⟩

set_option maxHeartbeats 400000 in
theorem left_nil (w : World) :
    Calls Try.prog 68 #[.pointer none] w fun e w' => e = .returned (.int .i64 0) ∧ w' = w := by
  go_enter Try.func68, Try.ntmps68
  go_wp2
  go_ret
  exact ⟨rfl, rfl⟩

end Go.Proofs.Ytgknpbgepgmmmaa.Bn
namespace Go.Proofs.Ytgknpbgepgmmmaa.Bn
open Go.RowKit

theorem and127 (x : Int) (h : 0 ≤ x ∧ x ≤ 255) : bits .and .u8 x 127 = x % 128 := by
  rw [u8_and x 127 h.1 (by omega) (by omega) (by omega)]
  have : (127 : Int).toNat = 127 := rfl
  rw [this, nat_mask7]; omega
theorem and128 (x : Int) (h : 0 ≤ x ∧ x ≤ 255) : bits .and .u8 x 128 = if 128 ≤ x then 128 else 0 := by
  rw [u8_and x 128 h.1 (by omega) (by omega) (by omega)]
  have : (128 : Int).toNat = 2 ^ 7 := rfl
  rw [this, nat_bit]
  split <;> omega
theorem and128_t (x : Int) (h : 0 ≤ x ∧ x ≤ 255) (hx : 128 ≤ x) : (bits .and .u8 x 128 != 0) = true := by rw [and128 x h, if_pos hx]; rfl
theorem and128_f (x : Int) (h : 0 ≤ x ∧ x ≤ 255) (hx : x < 128) : (bits .and .u8 x 128 != 0) = false := by rw [and128 x h, if_neg (by omega)]; rfl
theorem pow7 (k : Nat) : (2 : Int) ^ (7 * k) = (128 : Int) ^ k := by rw [Int.pow_mul]; rfl
theorem or_step (a k : Nat) (x : Int) (h : 0 ≤ x ∧ x ≤ 255) (ha : a < 128 ^ k) (hs : (x % 128) * 128 ^ k < 18446744073709551616) (ha2 : a < 18446744073709551616) :
    bits .or .u64 (a : Int) (IntKind.u64.wrap (IntKind.u64.wrap (bits .and .u8 x 127) * 2 ^ (7 * k))) = a + (x % 128) * 128 ^ k := by
  have hin : IntKind.u64.wrap (bits .and .u8 x 127) = x % 128 := by rw [and127 x h, IntKind.wrap_u64]; omega
  rw [hin, pow7, IntKind.wrap_u64]
  obtain ⟨c, hc⟩ := Int.eq_ofNat_of_zero_le (show 0 ≤ x % 128 by omega)
  rw [hc] at hs ⊢
  have e : ((c : Nat) : Int) * 128 ^ k = ((c * 128 ^ k : Nat) : Int) := by push_cast; rfl
  rw [e] at hs ⊢
  rw [Int.emod_eq_of_lt (by omega) hs, u64_or_nat a _ ha2 (by omega), Nat.or_comm, nat_join (7 * k) _ _ (by rw [Nat.pow_mul]; exact Nat.mul_mod_left _ _) (by rw [Nat.pow_mul]; exact ha)]
  omega

theorem pow_le9 {k : Nat} (h : k < 10) : 128 ^ k ≤ 9223372036854775808 := by
  have := Nat.pow_le_pow_right (show 0 < 128 by omega) (show k ≤ 9 by omega)
  simpa using this
theorem pow_le8 {k : Nat} (h : k < 9) : 128 ^ k ≤ 72057594037927936 := by
  have := Nat.pow_le_pow_right (show 0 < 128 by omega) (show k ≤ 8 by omega)
  simpa using this

theorem acc_step (bs : List UInt8) (k : Nat) (h10 : k < 10) (hlt : k < bs.length) (hx : k < 9 ∨ at8 bs k % 128 ≤ 1) :
    bits .or .u64 (acc (bs.take k) : Int) (IntKind.u64.wrap (IntKind.u64.wrap (bits .and .u8 (at8 bs k) 127) * 2 ^ (7 * k))) = acc (bs.take (k + 1)) := by
  have hb := at8_bd bs k
  have ha := acc_take_lt bs k
  have h9 := pow_le9 h10
  have hs : (at8 bs k % 128) * 128 ^ k < 18446744073709551616 := by
    have e : (128 : Int) ^ k = ((128 ^ k : Nat) : Int) := by push_cast; rfl
    rw [e]
    rcases hx with hx | hx
    · have h8 := pow_le8 hx
      have h1 : at8 bs k % 128 ≤ 127 := by omega
      have h2 : (at8 bs k % 128) * ((128 ^ k : Nat) : Int) ≤ 127 * ((128 ^ k : Nat) : Int) := Int.mul_le_mul_of_nonneg_right h1 (by omega)
      omega
    · have h2 : (at8 bs k % 128) * ((128 ^ k : Nat) : Int) ≤ 1 * ((128 ^ k : Nat) : Int) := Int.mul_le_mul_of_nonneg_right hx (by omega)
      omega
  rw [or_step _ _ _ hb ha hs (by omega), acc_take bs k hlt]

theorem ret2_int {a b c d : Int} {k l : IntKind} (h : a = b) (h' : c = d) : Ending.returned (.tuple #[.int k a, .int l c]) = .returned (.tuple #[.int k b, .int l d]) := by rw [h, h']

def numV (bs : List UInt8) : Nat := ((num bs).getD (0, 0)).1
def numK (bs : List UInt8) : Nat := ((num bs).getD (0, 0)).2
theorem numVK_none {bs : List UInt8} (h : num bs = none) : ((numV bs : Nat) : Int) = 0 ∧ ((numK bs : Nat) : Int) = 0 := by simp [numV, numK, h]
theorem numVK_at {bs : List UInt8} {k : Nat} (HJ : ∀ j, j < k → 128 ≤ at8 bs j) (hk : k < 10) (hl : k < bs.length) (hx : at8 bs k < 128) (h1 : 0 < k → at8 bs k ≠ 0) (h2 : k = 9 → at8 bs k ≤ 1) :
    numV bs = acc (bs.take (k + 1)) ∧ numK bs = k + 1 := by
  have e := len7_at k 10 bs HJ hl hx hk
  have hn : ¬ bad bs := by
    unfold bad
    rw [e]
    rintro (h | ⟨h, h'⟩ | ⟨h, h'⟩)
    · omega
    · exact h1 (by omega) h'
    · have : k = 9 := by omega
      subst this
      have := h2 rfl
      omega
  simp [numV, numK, num_ok hn, e]
theorem num_pad {bs : List UInt8} {k : Nat} (HJ : ∀ j, j < k → 128 ≤ at8 bs j) (hk : k < 10) (hl : k < bs.length) (h0 : 0 < k) (hx : at8 bs k = 0) : num bs = none := by
  have e := len7_at k 10 bs HJ hl (by omega) hk
  refine num_bad (Or.inr (Or.inl ?_))
  rw [e]
  exact ⟨by omega, hx⟩
theorem num_beyond {bs : List UInt8} (HJ : ∀ j, j < 9 → 128 ≤ at8 bs j) (hl : 9 < bs.length) (hx : at8 bs 9 < 128) (h1 : 1 < at8 bs 9) : num bs = none := by
  have e := len7_at 9 10 bs HJ hl hx (by omega)
  exact num_bad (Or.inr (Or.inr ⟨e, h1⟩))
theorem num_end {bs : List UInt8} {k : Nat} (HJ : ∀ j, j < k → 128 ≤ at8 bs j) (h : k = 10 ∨ bs.length ≤ k) : num bs = none :=
  num_bad (Or.inl (len7_none _ _ fun j h1 h2 => HJ j (by omega)))

set_option maxHeartbeats 2000000 in
theorem groups_some (g off cap : Nat) (bs : List UInt8) (w : World) (hl : bs.length ≤ maxLen)
   (hcell : ∀ j, j < bs.length → w.cell? ⟨g, off + j, none⟩ = some (.int .u8 (at8 bs j))) :
    Calls Try.prog 64 #[.slice (some ⟨g, off, none⟩) bs.length cap] w fun e w' => e = .returned (.tuple #[.int .u64 (numV bs), .int .i64 (numK bs)]) ∧ w' = w := by
  unfold maxLen at hl
  go_enter Try.func64, Try.ntmps64
  go_wp2
  go_loop [4, 5] (fun u i => ∃ (k : Nat) (uu : Int), k ≤ bs.length ∧ k ≤ 10 ∧ i = .int .i64 k ∧ u = .int .u64 uu ∧ Hid (k < 10 → uu = acc (bs.take k)) ∧ Hid (∀ j, j < k → 128 ≤ at8 bs j)) (fun _ i => 11 - (intOf i).toNat)
  case atStart => exact ⟨0, 0, Nat.zero_le _, by omega, rfl, rfl, fun _ => by simp [acc], fun j hj => by omega⟩
  case round =>
    obtain ⟨k, uu, hk, hk10, rfl, rfl, HU, HJ⟩ := hrel
    by_cases hlt : k < bs.length
    · by_cases h10 : k < 10
      · have hb := at8_bd bs k
        have hcx := hcell k hlt
        have hu := HU.out h10
        subst hu
        by_cases hx : 128 ≤ at8 bs k
        · have ht := and128_t _ hb hx
          clear hcell hb
          go_wp2
          go_round
          case rel => exact ⟨k + 1, _, by omega, by omega, by go_num, rfl, fun h => acc_step bs k h10 hlt (by omega), fun j hj => by
            by_cases e : j < k
            · exact HJ.out j e
            · have : j = k := by omega
              rw [this]; exact hx⟩
          case measure => simp [intOf]; omega
        · have ht := and128_f _ hb (by omega)
          by_cases h9 : k = 9
          · subst h9
            have h00 : (0 : Int) < 9 := by omega
            clear hcell
            by_cases hz : at8 bs 9 = 0
            · have HN := numVK_none (num_pad HJ.out h10 hlt (by omega) hz)
              have HN' : Hid ((numV bs : Int) = 0 ∧ (numK bs : Int) = 0) := HN
              have hz' : (at8 bs 9 == 0) = true := by rw [beq_iff_eq]; exact hz
              have hng : ¬ (1 : Int) < at8 bs 9 := by omega
              clear HN hz hx hb
              go_wp2
              all_goals go_ret2
              all_goals exact ⟨ret2_int HN'.out.1.symm HN'.out.2.symm, rfl⟩
            · have hz' : (at8 bs 9 == 0) = false := by rw [beq_eq_false_iff_ne]; exact hz
              by_cases h1 : 1 < at8 bs 9
              · have HN' : Hid ((numV bs : Int) = 0 ∧ (numK bs : Int) = 0) := numVK_none (num_beyond HJ.out hlt (by omega) h1)
                clear hz hb
                go_wp2
                all_goals go_ret2
                all_goals exact ⟨ret2_int HN'.out.1.symm HN'.out.2.symm, rfl⟩
              · have HN' : Hid (numV bs = acc (bs.take (9 + 1)) ∧ numK bs = 9 + 1) := numVK_at HJ.out h10 hlt (by omega) (fun _ => hz) (fun _ => by omega)
                have HS : Hid (_) := acc_step bs 9 h10 hlt (Or.inr (by omega))
                clear hz hb
                go_wp2
                all_goals go_ret2
                all_goals exact ⟨ret2_int (by rw [HN'.out.1]; exact HS.out) (by rw [HN'.out.2]; rfl), rfl⟩
          · have h9' : ((k : Int) == 9) = false := by rw [beq_eq_false_iff_ne]; omega
            clear hcell
            by_cases h0 : 0 < k
            · by_cases hz : at8 bs k = 0
              · have HN' : Hid ((numV bs : Int) = 0 ∧ (numK bs : Int) = 0) := numVK_none (num_pad HJ.out h10 hlt (by omega) hz)
                have hz' : (at8 bs k == 0) = true := by rw [beq_iff_eq]; exact hz
                clear hz hx hb
                go_wp2
                all_goals go_ret2
                all_goals exact ⟨ret2_int HN'.out.1.symm HN'.out.2.symm, rfl⟩
              · have hz' : (at8 bs k == 0) = false := by rw [beq_eq_false_iff_ne]; exact hz
                have HN' : Hid (numV bs = acc (bs.take (k + 1)) ∧ numK bs = k + 1) := numVK_at HJ.out h10 hlt (by omega) (fun _ => hz) (fun _ => by omega)
                have HS : Hid (_) := acc_step bs k h10 hlt (Or.inl (by omega))
                clear hz hb
                go_wp2
                all_goals go_ret2
                all_goals exact ⟨ret2_int (by rw [HN'.out.1]; exact HS.out) (by rw [HN'.out.2]; push_cast; rfl), rfl⟩
            · have HN' : Hid (numV bs = acc (bs.take (k + 1)) ∧ numK bs = k + 1) := numVK_at HJ.out h10 hlt (by omega) (fun h => absurd h h0) (fun _ => by omega)
              have HS : Hid (_) := acc_step bs k h10 hlt (Or.inl (by omega))
              clear hb
              go_wp2
              all_goals go_ret2
              all_goals exact ⟨ret2_int (by rw [HN'.out.1]; exact HS.out) (by rw [HN'.out.2]; push_cast; rfl), rfl⟩
      · have HN' : Hid ((numV bs : Int) = 0 ∧ (numK bs : Int) = 0) := numVK_none (num_end HJ.out (Or.inl (by omega)))
        go_wp2
        all_goals go_ret2
        all_goals exact ⟨ret2_int HN'.out.1.symm HN'.out.2.symm, rfl⟩
    · have HN' : Hid ((numV bs : Int) = 0 ∧ (numK bs : Int) = 0) := numVK_none (num_end HJ.out (Or.inr (by omega)))
      go_wp2
      all_goals go_ret2
      all_goals exact ⟨ret2_int HN'.out.1.symm HN'.out.2.symm, rfl⟩

set_option maxHeartbeats 400000 in
theorem groups_empty (ao : Option Addr) (cap : Nat) (w : World) :
    Calls Try.prog 64 #[.slice ao 0 cap] w fun e w' => e = .returned (.tuple #[.int .u64 0, .int .i64 0]) ∧ w' = w := by
  go_enter Try.func64, Try.ntmps64
  go_wp2
  refine wp_loop_rounds 1 ?_
  rw [rounds_succ]
  go_wp2
  go_ret2
  exact ⟨rfl, rfl⟩

theorem groups_any (v : Value) (bs : List UInt8) (w : World) (h : Sl w v bs) :
    Calls Try.prog 64 #[v] w fun e w' => e = .returned (.tuple #[.int .u64 (numV bs), .int .i64 (numK bs)]) ∧ w' = w := by
  obtain ⟨ao, cap, rfl, h1, h2, h3, h4⟩ := h
  by_cases hp : 0 < bs.length
  · obtain ⟨g, off, rfl, hc⟩ := h4 hp
    exact groups_some g off cap bs w (by omega) hc
  · have e : bs = [] := List.eq_nil_of_length_eq_zero (by omega)
    subst e
    exact groups_empty ao cap w

theorem groups_none (v : Value) (bs : List UInt8) (w : World) (h : Sl w v bs) (hn : num bs = none) :
    Calls Try.prog 64 #[v] w fun e w' => e = .returned (.tuple #[.int .u64 0, .int .i64 0]) ∧ w' = w :=
  (groups_any v bs w h).mono fun _ _ ⟨he, hw⟩ => ⟨he.trans (ret2_int (numVK_none hn).1 (numVK_none hn).2), hw⟩
theorem groups_ok (v : Value) (bs : List UInt8) (w : World) (h : Sl w v bs) (u k : Nat) (hn : num bs = some (u, k)) :
    Calls Try.prog 64 #[v] w fun e w' => e = .returned (.tuple #[.int .u64 u, .int .i64 k]) ∧ w' = w :=
  (groups_any v bs w h).mono fun _ _ ⟨he, hw⟩ => ⟨he.trans (ret2_int (by simp [numV, hn]) (by simp [numK, hn])), hw⟩
theorem num_bds {bs : List UInt8} {u k : Nat} (h : num bs = some (u, k)) : u < 18446744073709551616 ∧ 0 < k ∧ k ≤ bs.length ∧ k ≤ 10 := by
  by_cases hb : bad bs
  · rw [num_bad hb] at h; cases h
  · rw [num_ok hb] at h
    simp only [Option.some.injEq, Prod.mk.injEq] at h
    obtain ⟨rfl, rfl⟩ := h
    have hl := len7_le 10 bs
    have h0 : len7 10 bs ≠ 0 := fun e => hb (Or.inl e)
    refine ⟨?_, by omega, hl.2, hl.1⟩
    by_cases h10 : len7 10 bs = 10
    · have h1 : ¬ 1 < at8 bs 9 := fun e => hb (Or.inr (Or.inr ⟨h10, e⟩))
      have hbd := at8_bd bs 9
      rw [h10]
      have ha := acc_take bs 9 (by omega)
      have hlt := acc_take_lt bs 9
      have e9 : (128 : Int) ^ 9 = 9223372036854775808 := by decide
      have e9' : (128 : Nat) ^ 9 = 9223372036854775808 := by decide
      rw [e9] at ha
      rw [e9'] at hlt
      have : at8 bs 9 % 128 ≤ 1 := by omega
      have h2 : (0 : Int) ≤ at8 bs 9 % 128 := by omega
      have ha' : ((acc (bs.take (9 + 1)) : Nat) : Int) = acc (bs.take 9) + at8 bs 9 % 128 * 9223372036854775808 := ha
      show acc (bs.take (9 + 1)) < _
      omega
    · have hlt := acc_take_lt bs (len7 10 bs)
      have := pow_le9 (k := len7 10 bs) (by omega)
      omega

end Go.Proofs.Ytgknpbgepgmmmaa.Bn
namespace Go.Proofs.Ytgknpbgepgmmmaa.Bn
open Go.RowKit

set_option maxHeartbeats 400000 in
theorem rnum_none (B : Nat) (w : World) (h : Rd w 108 B none) :
    Calls Try.prog 35 #[.pointer (some ⟨B, 0, none⟩)] w fun e w' => e = .returned (.int .i64 0) ∧ Rd w' 108 B none ∧ w.grownBy w' (some B) := by
  go_enter Try.func35, Try.ntmps35
  go_wp2_with (go_at_call 63; refine (ok_any B none _ h).mono ?_; rintro e w' ⟨rfl, rfl⟩)
  go_ret
  exact ⟨rfl, h, grown_refl _ _⟩

set_option maxHeartbeats 400000 in
theorem rnum_bad (B : Nat) (bs : List UInt8) (w : World) (h : Rd w 108 B (some bs)) (hn : num bs = none) :
    Calls Try.prog 35 #[.pointer (some ⟨B, 0, none⟩)] w fun e w' => e = .returned (.int .i64 0) ∧ Rd w' 108 B none ∧ w.grownBy w' (some B) := by
  have H := h
  obtain ⟨v, hB, hv, hp, hlim⟩ := h
  obtain ⟨c0, c1, f0, f1⟩ := two_cells hB
  obtain ⟨ao, cap, rfl, hc1, hc2⟩ := hv.shape
  have HN : Hid (num bs = none) := hn
  have HV : Hid (Sl w (.slice ao (Option.getD (some bs) []).length cap) ((some bs).getD [])) := hv
  clear hn hv hB hp hlim
  go_enter Try.func35, Try.ntmps35
  go_wp2_with (first
    | (go_at_call 63; refine (ok_any B (some bs) _ H).mono ?_; rintro e w' ⟨rfl, rfl⟩)
    | (go_at_call 64; refine (groups_none _ bs _ HV.out HN.out).mono ?_; rintro e w' ⟨rfl, rfl⟩)
    | (go_at_call 65; refine (fail_any B (some bs) _ H).mono ?_; rintro e w' ⟨rfl, hr', hg'⟩))
  go_ret
  exact ⟨rfl, hr', hg'⟩

set_option maxHeartbeats 400000 in
theorem rnum_ok (B : Nat) (bs : List UInt8) (w : World) (h : Rd w 108 B (some bs)) (u k : Nat) (hn : num bs = some (u, k)) :
    Calls Try.prog 35 #[.pointer (some ⟨B, 0, none⟩)] w fun e w' => e = .returned (.int .i64 (zag u)) ∧ Rd w' 108 B (some (bs.drop k)) ∧ w.grownBy w' (some B) := by
  obtain ⟨hu, hk0, hkl, hk10⟩ := num_bds hn
  have H := h
  obtain ⟨v, hB, hv, hp, hlim⟩ := h
  obtain ⟨c0, c1, f0, f1⟩ := two_cells hB
  obtain ⟨ao, cap, rfl, hc1, hc2⟩ := hv.shape
  have hkl' : k ≤ (Option.getD (some bs) []).length := hkl
  obtain ⟨g, off, rfl, _⟩ := hv.cell (by omega)
  have HN : Hid (num bs = some (u, k)) := hn
  have HP : Hid (_) := Rd.put hB hv (sl_rest hv k hkl').1 (sl_rest hv k hkl').2 (by rw [List.length_drop]; omega)
  have HV : Hid (Sl w (.slice (some ⟨g, off, none⟩) (Option.getD (some bs) []).length cap) ((some bs).getD [])) := hv
  have hkc : (k : Int) ≤ (bs.length : Int) := by omega
  have hne : ((k : Int) == 0) = false := by rw [beq_eq_false_iff_ne]; omega
  have hcm : (bs.length : Int) ≤ cap := by have : bs.length ≤ cap := hc1; omega
  clear hn hv hB hkl' hp hlim
  go_enter Try.func35, Try.ntmps35
  go_wp2_with (first
    | (go_at_call 63; refine (ok_any B (some bs) _ H).mono ?_; rintro e w' ⟨rfl, rfl⟩)
    | (go_at_call 64; refine (groups_ok _ bs _ HV.out u k HN.out).mono ?_; rintro e w' ⟨rfl, rfl⟩)
    | (go_at_call 66; refine (unfold_any u _ (by omega)).mono ?_; rintro e w' ⟨rfl, rfl⟩))
  all_goals go_ret
  · have hp := HP.out
    rw [if_pos (by assumption), show cap - k = 0 by omega] at hp
    exact ⟨rfl, hp⟩
  · have hp := HP.out
    rw [if_neg (by assumption)] at hp
    exact ⟨rfl, hp⟩

theorem rnum_any (B : Nat) (st : Option (List UInt8)) (w : World) (h : Rd w 108 B st) :
    Calls Try.prog 35 #[.pointer (some ⟨B, 0, none⟩)] w fun e w' => e = .returned (.int .i64 (rNum st).1) ∧ Rd w' 108 B (rNum st).2 ∧ w.grownBy w' (some B) := by
  cases st with
  | none => exact rnum_none B w h
  | some bs =>
    cases hn : num bs with
    | none => simp only [rNum, hn]; exact rnum_bad B bs w h hn
    | some uk => obtain ⟨u, k⟩ := uk; simp only [rNum, hn]; exact rnum_ok B bs w h u k hn

set_option maxHeartbeats 400000 in
theorem rnum_nil (w : World) :
    Calls Try.prog 35 #[.pointer none] w fun e w' => e = .returned (.int .i64 0) ∧ w' = w := by
  go_enter Try.func35, Try.ntmps35
  go_wp2_with (go_at_call 63; refine (ok_nil _).mono ?_; rintro e w' ⟨rfl, rfl⟩)
  go_ret
  exact ⟨rfl, rfl⟩

/- bytes.Clone -/
theorem Try.info5 : (Try.prog.info? 5).map (fun i => (i.zero, i.size, i.bytes)) = some (some (.int .u8 0), 1, 1) := by kernel_rfl

set_option maxHeartbeats 400000 in
theorem clone_nil (w : World) :
    Calls Try.prog 61 #[.slice none 0 0] w fun e w' => e = .returned (.slice none 0 0) ∧ w' = w := by
  have he := fun w => Lib.run_eql_slice_nil (P := Try.prog) w 24 5 none 0 0 0 0 Try.underlying24
  go_enter Try.func61, Try.ntmps61
  go_wp2
  go_ret
  exact ⟨rfl, rfl⟩

set_option maxHeartbeats 400000 in
theorem clone_some (a : Addr) (cap : Nat) (bs : List UInt8) (w : World) (h : Sl w (.slice (some a) bs.length cap) bs) (hl : bs.length ≤ 140737488355328) :
    Calls Try.prog 61 #[.slice (some a) bs.length cap] w fun e w' => ∃ v', e = .returned v' ∧ w'.ownsRow w.heap.size 5 1 v' bs.length (cells8 bs) ∧ Below w.heap.size w w' := by
  obtain ⟨i, hi, hz0, hz1, hz2⟩ := info_parts Try.info5
  have hnews : ∀ (o : Obj), ∀ j u, (cells8 bs)[j]? = some u → (w.alloc o).cell? (a.add j) = some u := by
    intro o j u hj
    have hjl : j < bs.length := by have := (List.getElem?_eq_some_iff.1 hj).1; simpa [cells8_len] using this
    obtain ⟨g, off, ha, hc⟩ := (h.alloc o).cell (by omega)
    simp only [Option.some.injEq] at ha
    subst ha
    rw [Addr.add_lit, hc j hjl, ← hj, cells8_at _ _ hjl]
  have he := fun w => Lib.run_eql_slice_nil (P := Try.prog) w 24 5 (some a) bs.length cap 0 0 Try.underlying24
  go_enter Try.func61, Try.ntmps61
  go_wp2_with (at_builtin; refine wpList_append_own_at _ rfl (.tmp 5) (.tmp 6) 24 rfl w.heap.size 5 i (.int .u8 0) 1 1 Try.underlying24 hi hz0 hz1 hz2 rfl (by decide) _ 0 [] rfl (World.ownsRow_made w #[] 0 (Nat.le_refl _) (by simp [maxLen]) rfl) a bs.length cap (cells8 bs) rfl (by rw [cells8_len, Nat.mul_one]) (hnews _) (cells8_one bs) (by simp only [maxLen]; omega) (by omega) (by simp) ?_)
  intro v' w1 hown hgrow _ hat
  clear hnews he
  have hfin : w1.ownsRow w.heap.size 5 1 v' bs.length (cells8 bs) ∧ Below w.heap.size w w1 :=
    ⟨by simpa using hown, ((Below.refl _ _).alloc (Nat.le_refl _) _).grown hgrow (by simp) (fun k hk => by simp [Value.ownBlock] at hk; omega)⟩
  clear hown hgrow hat
  go_wp2
  go_ret
  exact ⟨_, rfl, hfin⟩

/-- A copy: nil of nil, else a row of its own. -/
theorem clone_any (v : Value) (bs : List UInt8) (w : World) (h : Sl w v bs) (hl : bs.length ≤ 140737488355328) :
    Calls Try.prog 61 #[v] w fun e w' => ∃ v', e = .returned v' ∧ w'.ownsRow w.heap.size 5 1 v' bs.length (cells8 bs) ∧ Below w.heap.size w w' := by
  obtain ⟨ao, cap, rfl, h1, h2, h3, h4⟩ := id h
  cases ao with
  | none =>
    have hc := h3 rfl
    have e : bs = [] := List.eq_nil_of_length_eq_zero (by omega)
    subst e
    subst hc
    exact (clone_nil w).mono fun _ _ ⟨he, hw⟩ => ⟨_, he, by subst hw; exact World.ownsRow_nil _ _ _ _, by subst hw; exact Below.refl _ _⟩
  | some a => exact clone_some a cap bs w h hl

set_option maxHeartbeats 400000 in
theorem read_any (v : Value) (bs : List UInt8) (w : World) (h : Sl w v bs) (hl : bs.length ≤ 140737488355328) :
    Calls Try.prog 62 #[v] w fun e w' => ∃ B, e = .returned (.pointer (some ⟨B, 0, none⟩)) ∧ w.heap.size ≤ B ∧ Rd w' 108 B (some bs) ∧ Below w.heap.size w w' := by
  obtain ⟨ao, cap, rfl, h1, h2⟩ := h.shape
  go_enter Try.func62, Try.ntmps62
  go_wp2_with (go_at_call 61; refine (clone_any _ bs _ h hl).mono ?_; rintro e w' ⟨v', rfl, hown, hb⟩; obtain ⟨ao', cap', rfl, hc1', hc2'⟩ := (Sl.of_own hown).shape)
  go_ret
  refine ⟨w'.heap.size, rfl, hb.size, ⟨_, heap_alloc_new _ _, (Sl.of_own hown).alloc _, Pl.of_own hown, hl⟩, hb.alloc hb.size _⟩
end Go.Proofs.Ytgknpbgepgmmmaa.Bn

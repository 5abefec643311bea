/- What is read off bytes was written so: plain mathematics. -/
import Derived.Test.YtnbdkojdddplkaaDoorWlText
namespace Go.Proofs.YtnbdkojdddplkaaDoor.Wl
open Bn

theorem encF_back : ∀ (f : Nat) (bs : List UInt8) (k : Nat), len7 (f + 1) bs = k + 1 → (0 < k → at8 bs k ≠ 0) → encF f (acc (bs.take (k + 1))) = bs.take (k + 1)
  | f, [], k, h, _ => by simp [len7] at h
  | f, b :: r, k, h, hz => by
    rw [len7] at h
    have hb256 := b.toNat_lt
    by_cases hb : 128 ≤ b.toNat
    · rw [if_pos hb] at h
      by_cases h0 : len7 f r = 0
      · rw [if_pos h0] at h
        omega
      · rw [if_neg h0] at h
        obtain ⟨k', rfl⟩ : ∃ k', k = k' + 1 := ⟨k - 1, by omega⟩
        obtain ⟨f', rfl⟩ : ∃ f', f = f' + 1 := by
          cases f with
          | zero => simp [len7] at h0
          | succ f' => exact ⟨f', rfl⟩
        have hl : len7 (f' + 1) r = k' + 1 := by omega
        have hz' : at8 r k' ≠ 0 := by
          have := hz (by omega)
          rwa [at8_cons_succ] at this
        have ih := encF_back f' r k' hl (fun _ => hz')
        rw [List.take_succ_cons]
        obtain ⟨a, ha⟩ : ∃ a, a = acc (r.take (k' + 1)) := ⟨_, rfl⟩
        rw [acc, ← ha]
        rw [← ha] at ih
        have ha1 : 1 ≤ a := by
          cases a with
          | zero =>
            exfalso
            rw [encF_last f' 0 (by omega)] at ih
            have hlen := congrArg List.length ih
            have hle := (len7_le (f' + 1) r).2
            simp at hlen
            have hk0 : k' = 0 := by omega
            subst hk0
            apply hz'
            cases r with
            | nil => simp [len7] at hl
            | cons x r =>
              simp at ih
              simp [at8, ← ih]
          | succ a => omega
        rw [encF_more f' _ (by omega), show (b.toNat % 128 + 128 * a) / 128 = a by omega, show (b.toNat % 128 + 128 * a) % 128 + 128 = b.toNat by omega, ih]
        simp
    · rw [if_neg hb] at h
      have hk : k = 0 := by omega
      subst hk
      simp only [Nat.zero_add, List.take_succ_cons, List.take_zero, acc]
      rw [encF_last f _ (by omega), show b.toNat % 128 + 128 * 0 = b.toNat by omega]
      simp

theorem zig_zag (u : Nat) : zig (zag u) = u := by
  unfold zag
  split
  · unfold zig
    rw [if_pos (by omega)]
    omega
  · unfold zig
    rw [if_neg (by omega)]
    omega
theorem num_back {bs : List UInt8} {u k : Nat} (h : num bs = some (u, k)) : bs.take k = enc (zag u) ∧ u < 18446744073709551616 ∧ k ≤ bs.length := by
  by_cases hb : bad bs
  · rw [num_bad hb] at h
    simp at h
  · rw [num_ok hb] at h
    simp only [Option.some.injEq, Prod.mk.injEq] at h
    obtain ⟨hu, hk⟩ := h
    unfold bad at hb
    rw [hk] at hu hb
    have hle := len7_le 10 bs
    rw [hk] at hle
    obtain ⟨j, rfl⟩ : ∃ j, k = j + 1 := ⟨k - 1, by omega⟩
    have h1 := encF_back 9 bs j hk (fun hj e => hb (Or.inr (Or.inl ⟨by omega, by simpa using e⟩)))
    rw [hu] at h1
    refine ⟨?_, ?_, hle.2⟩
    · unfold enc
      rw [zig_zag]
      exact h1.symm
    · have h2 := acc_take_lt bs (j + 1)
      rw [hu] at h2
      by_cases hj : j + 1 ≤ 9
      · have : (128 : Nat) ^ (j + 1) ≤ 128 ^ 9 := Nat.pow_le_pow_right (by omega) hj
        have h9 : (128 : Nat) ^ 9 = 9223372036854775808 := by decide
        omega
      · have hj9 : j = 9 := by omega
        subst hj9
        have h3 := acc_take bs 9 (by omega)
        rw [hu] at h3
        have h4 := acc_take_lt bs 9
        have h9 : (128 : Nat) ^ 9 = 9223372036854775808 := by decide
        have h9' : (128 : Int) ^ 9 = 9223372036854775808 := by decide
        have h5 : at8 bs 9 ≤ 1 := by
          by_cases h6 : 1 < at8 bs 9
          · exact absurd (Or.inr (Or.inr ⟨rfl, h6⟩)) hb
          · omega
        have h6 := (at8_bd bs 9).1
        rw [h9] at h4
        rw [h9'] at h3
        have h7 : at8 bs 9 % 128 ≤ 1 := by omega
        omega
theorem rNum_back {bs : List UInt8} {n : Int} {r : List UInt8} (h : rNum (some bs) = (n, some r)) : bs = enc n ++ r ∧ -9223372036854775808 ≤ n ∧ n ≤ 9223372036854775807 := by
  cases hn : num bs with
  | none => simp [rNum, hn] at h
  | some x =>
    obtain ⟨u, k⟩ := x
    simp only [rNum, hn, Prod.mk.injEq, Option.some.injEq] at h
    obtain ⟨rfl, rfl⟩ := h
    obtain ⟨h1, h2, h3⟩ := num_back hn
    refine ⟨?_, ?_⟩
    · rw [← h1, List.take_append_drop]
    · unfold zag
      split <;> omega
theorem rText_back {bs t r : List UInt8} (h : rText (some bs) = (t, some r)) : bs = enc (t.length : Int) ++ (t ++ r) := by
  unfold rText at h
  cases hn : rNum (some bs) with
  | mk n st =>
    rw [hn] at h
    cases st with
    | none => exact absurd (congrArg Prod.snd h) (by simp)
    | some x =>
      simp only [rCut] at h
      split at h
      · rename_i hc
        simp only [Prod.mk.injEq, Option.some.injEq] at h
        obtain ⟨rfl, rfl⟩ := h
        have h1 := (rNum_back hn).1
        have hl : ((x.take n.toNat).length : Int) = n := by rw [List.length_take]; omega
        rw [hl, List.take_append_drop]
        exact h1
      · simp at h
theorem unseal_back {body : List UInt8} {n : Int} {d : List UInt8} (h : unsealL body = some (n, d)) : body = enc n ++ (enc (d.length : Int) ++ d) ∧ -9223372036854775808 ≤ n ∧ n ≤ 9223372036854775807 ∧ d.length ≤ 32768 := by
  unfold unsealL at h
  cases hn : rNum (some body) with
  | mk m st =>
    rw [hn] at h
    cases st with
    | none => simp [rText, rNum] at h
    | some x =>
      cases ht : rText (some x) with
      | mk t st2 =>
        simp only [ht] at h
        cases st2 with
        | none => simp at h
        | some r =>
          simp only at h
          split at h
          · rename_i hc
            simp only [Option.some.injEq, Prod.mk.injEq] at h
            obtain ⟨rfl, rfl⟩ := h
            have h1 := rNum_back hn
            have h2 := rText_back ht
            have hr : r = [] := List.eq_nil_of_length_eq_zero hc.1
            subst hr
            rw [List.append_nil] at h2
            exact ⟨by rw [h1.1, h2], h1.2.1, h1.2.2, hc.2⟩
          · simp at h
theorem unseal_rec (n : Int) (d : List UInt8) (h0 : -9223372036854775808 ≤ n) (h1 : n ≤ 9223372036854775807) (hl : d.length ≤ 32768) : unsealL (enc n ++ (enc (d.length : Int) ++ d)) = some (n, d) := by
  unfold unsealL
  rw [rNum_enc n _ h0 h1]
  have := rText_enc d [] (by omega)
  rw [List.append_nil] at this
  rw [this]
  simp [hl]
theorem recB_len {body : List UInt8} {n : Int} {d : List UInt8} (h : unsealL body = some (n, d)) : (recB n d).length = 8 + body.length := by
  unfold recB
  rw [Fr.seal_len, (unseal_back h).1]
end Go.Proofs.YtnbdkojdddplkaaDoor.Wl

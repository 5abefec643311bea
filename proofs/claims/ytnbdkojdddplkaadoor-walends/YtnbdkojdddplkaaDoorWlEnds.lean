/- Get's misses; the parts of the law WalEnds. -/
import Derived.Test.YtnbdkojdddplkaaDoorWlGood
namespace Go.Proofs.YtnbdkojdddplkaaDoor.Wl
open Go.RowKit Dk

set_option maxHeartbeats 1000000 in
theorem get_miss (B p pd : Nat) (s : St) (F : Nat → Prop) (first : Int) (ds : List (List UInt8)) (n : Int) (w : World) (h : LW w B p pd s F first ds) (hm : n < 1 ∨ n < first ∨ lastL first ds < n) :
    Calls Tryd.prog 25 #[.pointer (some ⟨p, 0, none⟩), .int .i64 n] w fun e w' => e = .returned (.tuple #[.slice none 0 0, .bool false]) ∧ ∃ m, w' = w.drewN m := by
  have HF : Hid (_) := h.first
  have HL : Hid (_) := h.last
  clear h
  generalize lastL first ds = l at *
  by_cases h1 : n < 1
  · go_enter Tryd.func25, Tryd.ntmps25
    go_wp2
    go_ret2
    exact ⟨rfl, 0, rfl⟩
  · by_cases h2 : n < first
    · go_enter Tryd.func25, Tryd.ntmps25
      go_wp2_with (go_at_call 26; refine Calls.mono HF.out ?_; rintro e w' ⟨rfl, hw⟩; have hw' := hw.symm; subst hw')
      go_ret2
      exact ⟨rfl, 0, rfl⟩
    · have h3 : l < n := by omega
      go_enter Tryd.func25, Tryd.ntmps25
      go_wp2_with (first
        | (go_at_call 26; refine Calls.mono HF.out ?_; rintro e w' ⟨rfl, hw⟩; have hw' := hw.symm; subst hw')
        | (go_at_call 24; refine Calls.mono HL.out ?_; rintro e w' ⟨rfl, m, rfl⟩))
      go_ret2
      exact ⟨rfl, m, rfl⟩

theorem load_good {fs : List Fl} {first : Int} {ds : List (List UInt8)} (h : nowF fs first ds) (room : Int) (hs : ∀ d ∈ ds, d.length ≤ 300) (h1 : ds ≠ [] → 1 ≤ first) (h0 : ds = [] → first = 0) (hfit : first + ds.length ≤ 9223372036854775808) :
    loadR (Fr.scanL (fileOf ⟨room, fs, []⟩ nmW)).1 0 [] = (first, ds) := by
  have hf : fileOf (⟨room, fs, []⟩ : St) nmW = fileB first ds := h.file
  rw [hf]
  by_cases hd : ds = []
  · rw [hd, h0 hd, fileB_nil, Fr.scan_nil]
    rfl
  · rw [load_file ds first (fun d hd => by have := hs d hd; omega) (h1 hd) hfit, if_neg (fun e => hd (List.eq_nil_of_length_eq_zero e))]
theorem openS_good {fs : List Fl} {first : Int} {ds : List (List UInt8)} (h : nowF fs first ds) (room : Int) (hs : ∀ d ∈ ds, d.length ≤ 300) (h1 : ds ≠ [] → 1 ≤ first) (h0 : ds = [] → first = 0) (hfit : first + ds.length ≤ 9223372036854775808) : openS ⟨room, fs, []⟩ = ⟨room, fs, []⟩ := by
  have hl := load_good h room hs h1 h0 hfit
  have hf : fileOf (⟨room, fs, []⟩ : St) nmW = fileB first ds := h.file
  have hst : strays ⟨room, fs, []⟩ ((⟨room, fs, []⟩ : St).now.map Fl.name) = ⟨room, fs, []⟩ := by
    rcases h with ⟨rfl, _⟩ | rfl
    · rfl
    · simp [St.now, Dk.run, strays, strayStep]
  unfold openS
  rw [hl, hst, hf, if_neg (Nat.lt_irrefl _)]

/-- The records that WalEnds writes. -/
def dE (k : Nat) : List (List UInt8) := (List.range k).map fun i => [UInt8.ofNat i, 7]
theorem dE_len (k : Nat) : (dE k).length = k := by simp [dE]
theorem dE_succ (k : Nat) : dE (k + 1) = dE k ++ [[UInt8.ofNat k, 7]] := by simp [dE, List.range_succ]
theorem dE_get (k i : Nat) (h : i < (dE k).length) : (dE k)[i] = [UInt8.ofNat i, 7] := by simp [dE]
theorem dE_take (k j : Nat) : (dE k).take j = dE (min k j) := by
  rw [dE, ← List.map_take, List.take_range, Nat.min_comm]
  rfl

theorem cnt_at (first : Int) (ds : List (List UInt8)) (j : Nat) (hd : ds ≠ []) : cnt first ds (first + j - 1) = min ds.length j := by
  have hz : ds.length ≠ 0 := fun e => hd (List.eq_nil_of_length_eq_zero e)
  unfold cnt lastL
  rw [if_neg hz]
  split <;> omega

/-- While WalEnds writes. -/
def EN (w0 w : World) (p pd : Nat) (first : Int) (k : Nat) : Prop := ∃ s, GD w0 w p pd s (if k = 0 then 0 else first) (dE k) ∧ Gs s (if k = 0 then 0 else first) (dE k) k (330 * k + 1)
theorem may_E (first : Int) (k : Nat) (h1 : 1 ≤ first) : mayL (if k = 0 then 0 else first) (dE k) (first + k) = true := by
  unfold mayL
  rw [dE_len]
  by_cases h : k = 0
  · subst h; simp; exact h1
  · simp only [h, if_false]
    simp
    omega
theorem EN.step {w0 w : World} {p pd k : Nat} {first : Int} (h : EN w0 w p pd first k) (hT : ∀ u, Below w0.heap.size w0 u → Fr.Tab u) (h1 : 1 ≤ first) (h2 : first ≤ 1099511627776) (hk : k < 60) :
    Calls Tryd.prog 14 #[.pointer (some ⟨p, 0, none⟩), .int .i64 (first + k), .slice (some ⟨w.heap.size, 0, none⟩) 2 2] (w.alloc (.cells #[.int .u8 (k : Int), .int .u8 7] 5)) fun e w' => e = .returned (.int .i64 0) ∧ Hid (EN w0 w' p pd first (k + 1)) := by
  obtain ⟨s, hG, hs⟩ := h
  have hba : Below w.heap.size w (w.alloc (.cells #[.int .u8 (k : Int), .int .u8 7] 5)) := (Below.refl _ _).alloc (Nat.le_refl _) _
  have hO : (w.alloc (.cells #[.int .u8 (k : Int), .int .u8 7] 5)).ownsRow 0 5 1 (.slice (some ⟨w.heap.size, 0, none⟩) 2 2) 2 (cells8 [UInt8.ofNat k, 7]) := by
    refine own_of_heap (heap_alloc_new _ _) (Nat.le_refl _) (by decide) rfl ?_
    simp [cells8]
    omega
  refine (hG.app hs hT (by omega) (by omega) (first + k) _ [UInt8.ofNat k, 7] hba (Sl.of_own hO) (fun a m c e => ?_) (may_E first k h1) (by omega) (by simp)).mono ?_
  · simp only [Value.slice.injEq, Option.some.injEq] at e
    rw [← e.1]
    exact Or.inr (Nat.le_refl _)
  · rintro e w' ⟨rfl, hX⟩
    refine ⟨rfl, s.push (.app nmW (recB (first + k) [UInt8.ofNat k, 7])), ?_, ?_⟩
    · have hX' := hX.out
      rw [dE_len] at hX'
      rw [dE_succ, if_neg (Nat.succ_ne_zero k)]
      by_cases hk0 : k = 0
      · subst hk0
        simpa using hX'
      · rw [if_neg hk0, if_neg hk0] at hX'
        exact hX'
    · have hX' := (hs.app (first + k) [UInt8.ofNat k, 7] (may_E first k h1) (by omega) (by simp))
      rw [dE_len] at hX'
      rw [dE_succ, if_neg (Nat.succ_ne_zero k)]
      have e : (if k = 0 then first + (k : Int) else if k = 0 then 0 else first) = first := by
        by_cases hk0 : k = 0
        · subst hk0; simp
        · simp [hk0]
      rw [e] at hX'
      exact ⟨hX'.room, hX'.now, by have := hX'.mass; omega, hX'.small, hX'.len, hX'.fit⟩

/-- What is left in the end. -/
def kE (N Fm : Nat) : Nat := min N Fm
def gE (N Fm Un : Nat) : Nat := min (kE N Fm) Un
def fE (first : Int) (N Fm Un : Nat) : Int := if gE N Fm Un = kE N Fm then 0 else first + gE N Fm Un
def lE (N Fm Un : Nat) : List (List UInt8) := (dE (kE N Fm)).drop (gE N Fm Un)
/-- A log of these. -/
def EF (w0 w : World) (r q : Nat) (first : Int) (N Fm Un : Nat) : Prop := ∃ s, GD w0 w r q s (fE first N Fm Un) (lE N Fm Un)

theorem EN.tail {w0 w : World} {p pd N Fm Un : Nat} {first : Int} (h : EN w0 w p pd first N) (hT : ∀ u, Below w0.heap.size w0 u → Fr.Tab u) (hw0 : 0 < w0.heap.size) (h1 : 1 ≤ first) (h2 : first ≤ 1099511627776) (hN : 1 ≤ N ∧ N ≤ 60) (hF : Fm ≤ 70) (hU : Un ≤ 70) :
    Calls Tryd.prog 15 #[.pointer (some ⟨p, 0, none⟩), .int .i64 (first + Fm)] w fun e w1 => e = .returned (.int .i64 0) ∧ Hid (Calls Tryd.prog 16 #[.pointer (some ⟨p, 0, none⟩), .int .i64 (first + Un - 1)] w1 fun e w2 => ∃ E : Int, e = .returned (.int .i64 E) ∧ ((1 ≤ first + Un - 1 ∧ E = 0) ∨ (¬ 1 ≤ first + Un - 1 ∧ E = 1)) ∧ Hid (Calls Tryd.prog 17 #[.pointer (some ⟨p, 0, none⟩)] w2 fun e w3 => e = .returned (.tuple #[]) ∧ Hid (Calls Tryd.prog 18 #[.pointer (some ⟨pd, 0, none⟩), .int .i64 (-1), .int .i64 0] w3 fun e w4 => ∃ q, e = .returned (.pointer (some ⟨q, 0, none⟩)) ∧ Hid (Calls Tryd.prog 11 #[.pointer (some ⟨q, 0, none⟩)] w4 fun e w5 => ∃ r, e = .returned (.tuple #[.pointer (some ⟨r, 0, none⟩), .int .i64 0]) ∧ Hid (EF w0 w5 r q first N Fm Un))))) := by
  obtain ⟨s, hG, hs⟩ := h
  rw [if_neg (by omega)] at hG hs
  have hne : dE N ≠ [] := fun e => by have := congrArg List.length e; rw [dE_len, List.length_nil] at this; omega
  have hc := cnt_at first (dE N) Fm hne
  rw [dE_len] at hc
  refine (hG.from hs (by omega) (by omega) (first + Fm) (kE N Fm) (by omega) (by omega) hc).mono ?_
  rintro e w1 ⟨rfl, hG1⟩
  refine ⟨rfl, ?_⟩
  have hs1 := hs.from (kE N Fm) (by rw [dE_len]; unfold kE; omega) (fun e => absurd e hne)
  have ht : (dE N).take (kE N Fm) = dE (kE N Fm) := by rw [dE_take]; congr 1; unfold kE; omega
  have hG1' := hG1.out
  rw [ht] at hs1 hG1'
  have hk60 : kE N Fm ≤ 60 := by unfold kE; omega
  have HU : Calls Tryd.prog 16 #[.pointer (some ⟨p, 0, none⟩), .int .i64 (first + Un - 1)] w1 fun e w2 => ∃ E : Int, e = .returned (.int .i64 E) ∧ ((1 ≤ first + Un - 1 ∧ E = 0) ∨ (¬ 1 ≤ first + Un - 1 ∧ E = 1)) ∧ Hid (∃ s2, GD w0 w2 p pd s2 (fE first N Fm Un) (lE N Fm Un) ∧ Gs s2 (fE first N Fm Un) (lE N Fm Un) 60 60000) := by
    by_cases hlow : 1 ≤ first + Un - 1
    · have hc2 : cnt (if kE N Fm = 0 then 0 else first) (dE (kE N Fm)) (first + Un - 1) = gE N Fm Un := by
        by_cases hk0 : kE N Fm = 0
        · rw [if_pos hk0, hk0]
          unfold gE
          rw [hk0, Nat.zero_min]
          simp [cnt, lastL, dE]
          omega
        · rw [if_neg hk0, cnt_at first (dE (kE N Fm)) Un (fun e => by have := congrArg List.length e; rw [dE_len, List.length_nil] at this; omega), dE_len]
          rfl
      refine (hG1'.until hs1 hT (by omega) (by omega) (first + Un - 1) (gE N Fm Un) hlow (by omega) hc2).mono ?_
      rintro e w2 ⟨rfl, hG2⟩
      have hs2 := hs1.until (gE N Fm Un) (by rw [dE_len]; unfold gE; omega) (fun e => by
        have := congrArg List.length e
        rw [dE_len, List.length_nil] at this
        rw [if_pos this])
      have hf : (if gE N Fm Un = (dE (kE N Fm)).length then 0 else (if kE N Fm = 0 then 0 else first) + (gE N Fm Un : Int)) = fE first N Fm Un := by
        rw [dE_len]
        unfold fE
        by_cases hg : gE N Fm Un = kE N Fm
        · rw [if_pos hg, if_pos hg]
        · rw [if_neg hg, if_neg hg, if_neg (fun e => hg (by unfold gE; rw [e, Nat.zero_min]))]
      have hG2' := hG2.out
      rw [hf] at hs2 hG2'
      refine ⟨0, rfl, Or.inl ⟨hlow, rfl⟩, _, hG2', ?_⟩
      exact ⟨hs2.room, hs2.now, by have := hs2.mass; omega, hs2.small, Nat.le_trans hs2.len hN.2, hs2.fit⟩
    · refine (until_low p (first + Un - 1) w1 (by omega)).mono ?_
      rintro e w2 ⟨rfl, rfl⟩
      have hUn : Un = 0 := by omega
      have hg0 : gE N Fm Un = 0 := by unfold gE; omega
      have hf : (if kE N Fm = 0 then 0 else first) = fE first N Fm Un := by
        unfold fE
        rw [hg0]
        by_cases hk0 : kE N Fm = 0
        · rw [if_pos hk0, if_pos hk0.symm]
        · rw [if_neg hk0, if_neg (fun e => hk0 e.symm)]
          simp
      have hl : dE (kE N Fm) = lE N Fm Un := by unfold lE; rw [hg0, List.drop_zero]
      rw [hf, hl] at hs1 hG1'
      refine ⟨1, rfl, Or.inr ⟨hlow, rfl⟩, _, hG1', ?_⟩
      exact ⟨hs1.room, hs1.now, by have := hs1.mass; omega, hs1.small, by have := hs1.len; omega, hs1.fit⟩
  refine HU.mono ?_
  rintro e w2 ⟨E, rfl, hE, s2, hG2, hs2⟩
  refine ⟨E, rfl, hE, ?_⟩
  have hm2 := hs2.mass
  refine (hG2.sync (by omega)).mono ?_
  rintro e w3 ⟨rfl, hG3⟩
  refine ⟨rfl, ?_⟩
  have hs3 := hs2.sync
  have hm3 := hs3.mass
  refine (GD.crash hG3 (by omega) (-1) 0).mono ?_
  rintro e w4 ⟨q, rfl, hD4, _⟩
  refine ⟨q, rfl, ?_⟩
  have hle : (⟨(⟨s2.room, s2.now, []⟩ : St).room, Dk.leftOf ⟨s2.room, s2.now, []⟩ (-1) 0, []⟩ : St) = ⟨s2.room, s2.now, []⟩ := rfl
  rw [hle] at hD4
  have hfit := hs3.fit
  have hz0 : lE N Fm Un = [] → fE first N Fm Un = 0 := fun e => by
    have := congrArg List.length e
    unfold lE at this
    rw [List.length_drop, dE_len, List.length_nil] at this
    unfold fE
    rw [if_pos (by unfold gE at *; omega)]
  have hz1 : lE N Fm Un ≠ [] → 1 ≤ fE first N Fm Un := fun e => by
    unfold fE
    split
    · rename_i hg
      exact absurd (by unfold lE; rw [hg]; exact List.drop_of_length_le (by rw [dE_len]; exact Nat.le_refl _)) e
    · omega
  have hld := load_good hs2.now s2.room hs2.small hz1 hz0 (by omega)
  have hfile := hs2.file
  have hlen := hs2.len
  have hfo : fileOf (⟨s2.room, s2.now, []⟩ : St) nmW = fileB (fE first N Fm Un) (lE N Fm Un) := hs2.now.file
  refine (GD.open hD4 hT hw0 (by omega) (hs2.now.nm) (by rw [hfo]; omega) (by have := hs2.now.len; exact Nat.le_trans this (by decide)) _ _ hld).mono ?_
  rintro e w5 ⟨r, rfl, hG5, _⟩
  exact ⟨r, rfl, _, hG5⟩

theorem EF.miss {w0 w : World} {r q N Fm Un : Nat} {first : Int} (h : EF w0 w r q first N Fm Un) (h1 : 1 ≤ first) (i : Nat) (hi : ¬ (Un ≤ i ∧ i < kE N Fm)) :
    Calls Tryd.prog 25 #[.pointer (some ⟨r, 0, none⟩), .int .i64 (first + i)] w fun e w' => e = .returned (.tuple #[.slice none 0 0, .bool false]) ∧ Hid (EF w0 w' r q first N Fm Un) := by
  obtain ⟨s, F, hL, hF, hb⟩ := h
  refine (get_miss _ r q s F _ _ (first + i) w hL ?_).mono ?_
  · right
    have hll : (lE N Fm Un).length = kE N Fm - gE N Fm Un := by unfold lE; rw [List.length_drop, dE_len]
    unfold lastL
    rw [hll]
    unfold fE
    by_cases hg : gE N Fm Un = kE N Fm
    · right
      rw [if_pos (by omega)]
      omega
    · rw [if_neg hg, if_neg (by unfold gE at *; omega)]
      unfold gE at *
      omega
  · rintro e w' ⟨rfl, m, rfl⟩
    exact ⟨rfl, s, F, hL.drew m, hF, hb.trans ⟨rfl, rfl, rfl, Nat.le_refl _, fun _ _ => rfl⟩⟩
theorem EF.hit {w0 w : World} {r q N Fm Un : Nat} {first : Int} (h : EF w0 w r q first N Fm Un) (h1 : 1 ≤ first) (h2 : first ≤ 1099511627776) (hN : N ≤ 60) (i : Nat) (hi : Un ≤ i ∧ i < kE N Fm) :
    Calls Tryd.prog 25 #[.pointer (some ⟨r, 0, none⟩), .int .i64 (first + i)] w fun e w' => ∃ g cap, e = .returned (.tuple #[.slice (some ⟨g, 0, none⟩) 2 cap, .bool true]) ∧ w'.cell? ⟨g, 0, none⟩ = some (.int .u8 (i : Int)) ∧ Hid (EF w0 w' r q first N Fm Un) := by
  obtain ⟨s, F, hL, hF, hb⟩ := h
  have hg : gE N Fm Un = Un := by unfold gE; omega
  have hkN : kE N Fm ≤ N := by unfold kE; omega
  have hll : (lE N Fm Un).length = kE N Fm - Un := by unfold lE; rw [List.length_drop, dE_len, hg]
  have hf : fE first N Fm Un = first + Un := by unfold fE; rw [if_neg (by omega), hg]
  have hd : (lE N Fm Un)[i - Un]'(by omega) = [UInt8.ofNat i, 7] := by
    simp only [lE, List.getElem_drop, hg]
    rw [dE_get]
    congr 2
    omega
  have hget := get_hit _ r q s F _ _ (i - Un) w hL (by omega) (by omega) (by omega) (by omega) (by rw [hd]; simp)
  rw [hf, hd, show first + (Un : Int) + ((i - Un : Nat) : Int) = first + i by omega] at hget
  refine hget.mono ?_
  rintro e w' ⟨v', rfl, hO, hbb⟩
  rcases own_shape hO with ⟨_, e0⟩ | ⟨g, cap, rfl, _⟩
  · simp at e0
  refine ⟨g, cap, rfl, ?_, s, F, hL.below hbb, hF, hb.trans (hbb.mono hb.size)⟩
  rw [hO.cellAt 0 (by simp)]
  simp [cells8]
  omega
theorem EF.last {w0 w : World} {r q N Fm Un : Nat} {first : Int} (h : EF w0 w r q first N Fm Un) (h1 : 1 ≤ first) :
    Calls Tryd.prog 24 #[.pointer (some ⟨r, 0, none⟩)] w fun e w' => ∃ l : Int, e = .returned (.int .i64 l) ∧ decide (l = 0) = decide (kE N Fm ≤ Un) ∧ Hid (Below w0.heap.size w0 w') := by
  obtain ⟨s, F, hL, hF, hb⟩ := h
  refine hL.last.mono ?_
  rintro e w' ⟨rfl, m, rfl⟩
  refine ⟨_, rfl, ?_, hb.trans ⟨rfl, rfl, rfl, Nat.le_refl _, fun _ _ => rfl⟩⟩
  have hll : (lE N Fm Un).length = kE N Fm - gE N Fm Un := by unfold lE; rw [List.length_drop, dE_len]
  rw [decide_eq_decide]
  unfold lastL
  rw [hll]
  unfold fE
  by_cases hg : gE N Fm Un = kE N Fm
  · rw [if_pos (by omega)]
    unfold gE at *
    omega
  · rw [if_neg hg, if_neg (by unfold gE at *; omega)]
    unfold gE at *
    omega
end Go.Proofs.YtnbdkojdddplkaaDoor.Wl

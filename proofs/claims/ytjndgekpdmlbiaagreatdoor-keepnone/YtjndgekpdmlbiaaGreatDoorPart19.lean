/- Get's misses; the parts of the law WalEnds. The walk of the law WalEnds. A log that is open, with all blocks that are its own and its disk's: what each call makes of it, and that nothing else changes. From, Until, Crash and Open of a log whose blocks are known. A text of one piece is put behind a log without records. -/
import Derived.Test.YtjndgekpdmlbiaaGreatDoorPart18
import Derived.Test.YtjndgekpdmlbiaaGreatDoorPart14
import Derived.Test.YtjndgekpdmlbiaaGreatDoorPart11
import Derived.Test.YtjndgekpdmlbiaaGreatDoorPart17
import Derived.Deep.RegionHeld3
import Derived.Deep.RegionLaw
namespace Go.Proofs.YtjndgekpdmlbiaaGreatDoor.Wl
open Go.RowKit Dk

set_option maxHeartbeats 1000000 in
theorem get_miss (B p pd : Nat) (s : St) (F : Nat → Prop) (first : Int) (ds : List (List UInt8)) (n : Int) (w : World) (h : LW w B p pd s F first ds) (hm : n < 1 ∨ n < first ∨ lastL first ds < n) :
    Calls Tryz.prog 81 #[.pointer (some ⟨p, 0, none⟩), .int .i64 n] w fun e w' => e = .returned (.tuple #[.slice none 0 0, .bool false]) ∧ ∃ m, w' = w.drewN m := by
  have HF : Hid (_) := h.first
  have HL : Hid (_) := h.last
  clear h
  generalize lastL first ds = l at *
  by_cases h1 : n < 1
  · go_enter Tryz.func81, Tryz.ntmps81
    go_wp2
    go_ret2
    exact ⟨rfl, 0, rfl⟩
  · by_cases h2 : n < first
    · go_enter Tryz.func81, Tryz.ntmps81
      go_wp2_with (go_at_call 50; refine Calls.mono HF.out ?_; rintro e w' ⟨rfl, hw⟩; have hw' := hw.symm; subst hw')
      go_ret2
      exact ⟨rfl, 0, rfl⟩
    · have h3 : l < n := by omega
      go_enter Tryz.func81, Tryz.ntmps81
      go_wp2_with (first
        | (go_at_call 50; refine Calls.mono HF.out ?_; rintro e w' ⟨rfl, hw⟩; have hw' := hw.symm; subst hw')
        | (go_at_call 48; refine Calls.mono HL.out ?_; rintro e w' ⟨rfl, m, rfl⟩))
      go_ret2
      exact ⟨rfl, m, rfl⟩

theorem load_good {fs : List Fl} {first : Int} {ds : List (List UInt8)} (h : nowF fs first ds) (room : Int) (hs : ∀ d ∈ ds, d.length ≤ 300) (h1 : ds ≠ [] → 1 ≤ first) (h0 : ds = [] → first = 0) (hfit : first + ds.length ≤ 9223372036854775808) :
    loadR (Fr.scanL (fileOf ⟨room, fs, []⟩ nmW)).1 0 [] = (first, ds) := by
  have hf : fileOf (⟨room, fs, []⟩ : St) nmW = fileB first ds := h.file
  rw [hf]
  by_cases hd : ds = []
  · rw [hd, h0 hd, fileB_nil, Fr.scan_nil]
    rfl
  · rw [load_file ds first (fun d hd => by have := hs d hd; omega) (h1 hd) hfit, if_neg (fun e => hd (List.eq_nil_of_length_eq_zero e))]
theorem openS_good {fs : List Fl} {first : Int} {ds : List (List UInt8)} (h : nowF fs first ds) (room : Int) (hs : ∀ d ∈ ds, d.length ≤ 300) (h1 : ds ≠ [] → 1 ≤ first) (h0 : ds = [] → first = 0) (hfit : first + ds.length ≤ 9223372036854775808) : openS ⟨room, fs, []⟩ = ⟨room, fs, []⟩ := by
  have hl := load_good h room hs h1 h0 hfit
  have hf : fileOf (⟨room, fs, []⟩ : St) nmW = fileB first ds := h.file
  have hst : strays ⟨room, fs, []⟩ ((⟨room, fs, []⟩ : St).now.map Fl.name) = ⟨room, fs, []⟩ := by
    rcases h with ⟨rfl, _⟩ | rfl
    · rfl
    · simp [St.now, Dk.run, strays, strayStep]
  unfold openS
  rw [hl, hst, hf, if_neg (Nat.lt_irrefl _)]

/-- The records that WalEnds writes. -/
def dE (k : Nat) : List (List UInt8) := (List.range k).map fun i => [UInt8.ofNat i, 7]
theorem dE_len (k : Nat) : (dE k).length = k := by simp [dE]
theorem dE_succ (k : Nat) : dE (k + 1) = dE k ++ [[UInt8.ofNat k, 7]] := by simp [dE, List.range_succ]
theorem dE_get (k i : Nat) (h : i < (dE k).length) : (dE k)[i] = [UInt8.ofNat i, 7] := by simp [dE]
theorem dE_take (k j : Nat) : (dE k).take j = dE (min k j) := by
  rw [dE, ← List.map_take, List.take_range, Nat.min_comm]
  rfl

theorem cnt_at (first : Int) (ds : List (List UInt8)) (j : Nat) (hd : ds ≠ []) : cnt first ds (first + j - 1) = min ds.length j := by
  have hz : ds.length ≠ 0 := fun e => hd (List.eq_nil_of_length_eq_zero e)
  unfold cnt lastL
  rw [if_neg hz]
  split <;> omega

/-- While WalEnds writes. -/
def EN (w0 w : World) (p pd : Nat) (first : Int) (k : Nat) : Prop := ∃ s, GD w0 w p pd s (if k = 0 then 0 else first) (dE k) ∧ Gs s (if k = 0 then 0 else first) (dE k) k (330 * k + 1)
theorem may_E (first : Int) (k : Nat) (h1 : 1 ≤ first) : mayL (if k = 0 then 0 else first) (dE k) (first + k) = true := by
  unfold mayL
  rw [dE_len]
  by_cases h : k = 0
  · subst h; simp; exact h1
  · simp only [h, if_false]
    simp
    omega
theorem EN.step {w0 w : World} {p pd k : Nat} {first : Int} (h : EN w0 w p pd first k) (hT : ∀ u, Below w0.heap.size w0 u → Fr.Tab u) (h1 : 1 ≤ first) (h2 : first ≤ 1099511627776) (hk : k < 60) :
    Calls Tryz.prog 121 #[.pointer (some ⟨p, 0, none⟩), .int .i64 (first + k), .slice (some ⟨w.heap.size, 0, none⟩) 2 2] (w.alloc (.cells #[.int .u8 (k : Int), .int .u8 7] 5)) fun e w' => e = .returned (.int .i64 0) ∧ Hid (EN w0 w' p pd first (k + 1)) := by
  obtain ⟨s, hG, hs⟩ := h
  have hba : Below w.heap.size w (w.alloc (.cells #[.int .u8 (k : Int), .int .u8 7] 5)) := (Below.refl _ _).alloc (Nat.le_refl _) _
  have hO : (w.alloc (.cells #[.int .u8 (k : Int), .int .u8 7] 5)).ownsRow 0 5 1 (.slice (some ⟨w.heap.size, 0, none⟩) 2 2) 2 (cells8 [UInt8.ofNat k, 7]) := by
    refine own_of_heap (heap_alloc_new _ _) (Nat.le_refl _) (by decide) rfl ?_
    simp [cells8]
    omega
  refine (hG.app hs hT (by omega) (by omega) (first + k) _ [UInt8.ofNat k, 7] hba (Sl.of_own hO) (fun a m c e => ?_) (may_E first k h1) (by omega) (by simp)).mono ?_
  · simp only [Value.slice.injEq, Option.some.injEq] at e
    rw [← e.1]
    exact Or.inr (Nat.le_refl _)
  · rintro e w' ⟨rfl, hX⟩
    refine ⟨rfl, s.push (.app nmW (recB (first + k) [UInt8.ofNat k, 7])), ?_, ?_⟩
    · have hX' := hX.out
      rw [dE_len] at hX'
      rw [dE_succ, if_neg (Nat.succ_ne_zero k)]
      by_cases hk0 : k = 0
      · subst hk0
        simpa using hX'
      · rw [if_neg hk0, if_neg hk0] at hX'
        exact hX'
    · have hX' := (hs.app (first + k) [UInt8.ofNat k, 7] (may_E first k h1) (by omega) (by simp))
      rw [dE_len] at hX'
      rw [dE_succ, if_neg (Nat.succ_ne_zero k)]
      have e : (if k = 0 then first + (k : Int) else if k = 0 then 0 else first) = first := by
        by_cases hk0 : k = 0
        · subst hk0; simp
        · simp [hk0]
      rw [e] at hX'
      exact ⟨hX'.room, hX'.now, by have := hX'.mass; omega, hX'.small, hX'.len, hX'.fit⟩

/-- What is left in the end. -/
def kE (N Fm : Nat) : Nat := min N Fm
def gE (N Fm Un : Nat) : Nat := min (kE N Fm) Un
def fE (first : Int) (N Fm Un : Nat) : Int := if gE N Fm Un = kE N Fm then 0 else first + gE N Fm Un
def lE (N Fm Un : Nat) : List (List UInt8) := (dE (kE N Fm)).drop (gE N Fm Un)
/-- A log of these. -/
def EF (w0 w : World) (r q : Nat) (first : Int) (N Fm Un : Nat) : Prop := ∃ s, GD w0 w r q s (fE first N Fm Un) (lE N Fm Un)

theorem EN.tail {w0 w : World} {p pd N Fm Un : Nat} {first : Int} (h : EN w0 w p pd first N) (hT : ∀ u, Below w0.heap.size w0 u → Fr.Tab u) (hw0 : 0 < w0.heap.size) (h1 : 1 ≤ first) (h2 : first ≤ 1099511627776) (hN : 1 ≤ N ∧ N ≤ 60) (hF : Fm ≤ 70) (hU : Un ≤ 70) :
    Calls Tryz.prog 49 #[.pointer (some ⟨p, 0, none⟩), .int .i64 (first + Fm)] w fun e w1 => e = .returned (.int .i64 0) ∧ Hid (Calls Tryz.prog 87 #[.pointer (some ⟨p, 0, none⟩), .int .i64 (first + Un - 1)] w1 fun e w2 => ∃ E : Int, e = .returned (.int .i64 E) ∧ ((1 ≤ first + Un - 1 ∧ E = 0) ∨ (¬ 1 ≤ first + Un - 1 ∧ E = 1)) ∧ Hid (Calls Tryz.prog 57 #[.pointer (some ⟨p, 0, none⟩)] w2 fun e w3 => e = .returned (.tuple #[]) ∧ Hid (Calls Tryz.prog 16 #[.pointer (some ⟨pd, 0, none⟩), .int .i64 (-1), .int .i64 0] w3 fun e w4 => ∃ q, e = .returned (.pointer (some ⟨q, 0, none⟩)) ∧ Hid (Calls Tryz.prog 25 #[.pointer (some ⟨q, 0, none⟩)] w4 fun e w5 => ∃ r, e = .returned (.tuple #[.pointer (some ⟨r, 0, none⟩), .int .i64 0]) ∧ Hid (EF w0 w5 r q first N Fm Un))))) := by
  obtain ⟨s, hG, hs⟩ := h
  rw [if_neg (by omega)] at hG hs
  have hne : dE N ≠ [] := fun e => by have := congrArg List.length e; rw [dE_len, List.length_nil] at this; omega
  have hc := cnt_at first (dE N) Fm hne
  rw [dE_len] at hc
  refine (hG.from hs (by omega) (by omega) (first + Fm) (kE N Fm) (by omega) (by omega) hc).mono ?_
  rintro e w1 ⟨rfl, hG1⟩
  refine ⟨rfl, ?_⟩
  have hs1 := hs.from (kE N Fm) (by rw [dE_len]; unfold kE; omega) (fun e => absurd e hne)
  have ht : (dE N).take (kE N Fm) = dE (kE N Fm) := by rw [dE_take]; congr 1; unfold kE; omega
  have hG1' := hG1.out
  rw [ht] at hs1 hG1'
  have hk60 : kE N Fm ≤ 60 := by unfold kE; omega
  have HU : Calls Tryz.prog 87 #[.pointer (some ⟨p, 0, none⟩), .int .i64 (first + Un - 1)] w1 fun e w2 => ∃ E : Int, e = .returned (.int .i64 E) ∧ ((1 ≤ first + Un - 1 ∧ E = 0) ∨ (¬ 1 ≤ first + Un - 1 ∧ E = 1)) ∧ Hid (∃ s2, GD w0 w2 p pd s2 (fE first N Fm Un) (lE N Fm Un) ∧ Gs s2 (fE first N Fm Un) (lE N Fm Un) 60 60000) := by
    by_cases hlow : 1 ≤ first + Un - 1
    · have hc2 : cnt (if kE N Fm = 0 then 0 else first) (dE (kE N Fm)) (first + Un - 1) = gE N Fm Un := by
        by_cases hk0 : kE N Fm = 0
        · rw [if_pos hk0, hk0]
          unfold gE
          rw [hk0, Nat.zero_min]
          simp [cnt, lastL, dE]
          omega
        · rw [if_neg hk0, cnt_at first (dE (kE N Fm)) Un (fun e => by have := congrArg List.length e; rw [dE_len, List.length_nil] at this; omega), dE_len]
          rfl
      refine (hG1'.until hs1 hT (by omega) (by omega) (first + Un - 1) (gE N Fm Un) hlow (by omega) hc2).mono ?_
      rintro e w2 ⟨rfl, hG2⟩
      have hs2 := hs1.until (gE N Fm Un) (by rw [dE_len]; unfold gE; omega) (fun e => by
        have := congrArg List.length e
        rw [dE_len, List.length_nil] at this
        rw [if_pos this])
      have hf : (if gE N Fm Un = (dE (kE N Fm)).length then 0 else (if kE N Fm = 0 then 0 else first) + (gE N Fm Un : Int)) = fE first N Fm Un := by
        rw [dE_len]
        unfold fE
        by_cases hg : gE N Fm Un = kE N Fm
        · rw [if_pos hg, if_pos hg]
        · rw [if_neg hg, if_neg hg, if_neg (fun e => hg (by unfold gE; rw [e, Nat.zero_min]))]
      have hG2' := hG2.out
      rw [hf] at hs2 hG2'
      refine ⟨0, rfl, Or.inl ⟨hlow, rfl⟩, _, hG2', ?_⟩
      exact ⟨hs2.room, hs2.now, by have := hs2.mass; omega, hs2.small, Nat.le_trans hs2.len hN.2, hs2.fit⟩
    · refine (until_low p (first + Un - 1) w1 (by omega)).mono ?_
      rintro e w2 ⟨rfl, rfl⟩
      have hUn : Un = 0 := by omega
      have hg0 : gE N Fm Un = 0 := by unfold gE; omega
      have hf : (if kE N Fm = 0 then 0 else first) = fE first N Fm Un := by
        unfold fE
        rw [hg0]
        by_cases hk0 : kE N Fm = 0
        · rw [if_pos hk0, if_pos hk0.symm]
        · rw [if_neg hk0, if_neg (fun e => hk0 e.symm)]
          simp
      have hl : dE (kE N Fm) = lE N Fm Un := by unfold lE; rw [hg0, List.drop_zero]
      rw [hf, hl] at hs1 hG1'
      refine ⟨1, rfl, Or.inr ⟨hlow, rfl⟩, _, hG1', ?_⟩
      exact ⟨hs1.room, hs1.now, by have := hs1.mass; omega, hs1.small, by have := hs1.len; omega, hs1.fit⟩
  refine HU.mono ?_
  rintro e w2 ⟨E, rfl, hE, s2, hG2, hs2⟩
  refine ⟨E, rfl, hE, ?_⟩
  have hm2 := hs2.mass
  refine (hG2.sync (by omega)).mono ?_
  rintro e w3 ⟨rfl, hG3⟩
  refine ⟨rfl, ?_⟩
  have hs3 := hs2.sync
  have hm3 := hs3.mass
  refine (GD.crash hG3 (by omega) (-1) 0).mono ?_
  rintro e w4 ⟨q, rfl, hD4, _⟩
  refine ⟨q, rfl, ?_⟩
  have hle : (⟨(⟨s2.room, s2.now, []⟩ : St).room, Dk.leftOf ⟨s2.room, s2.now, []⟩ (-1) 0, []⟩ : St) = ⟨s2.room, s2.now, []⟩ := rfl
  rw [hle] at hD4
  have hfit := hs3.fit
  have hz0 : lE N Fm Un = [] → fE first N Fm Un = 0 := fun e => by
    have := congrArg List.length e
    unfold lE at this
    rw [List.length_drop, dE_len, List.length_nil] at this
    unfold fE
    rw [if_pos (by unfold gE at *; omega)]
  have hz1 : lE N Fm Un ≠ [] → 1 ≤ fE first N Fm Un := fun e => by
    unfold fE
    split
    · rename_i hg
      exact absurd (by unfold lE; rw [hg]; exact List.drop_of_length_le (by rw [dE_len]; exact Nat.le_refl _)) e
    · omega
  have hld := load_good hs2.now s2.room hs2.small hz1 hz0 (by omega)
  have hfile := hs2.file
  have hlen := hs2.len
  have hfo : fileOf (⟨s2.room, s2.now, []⟩ : St) nmW = fileB (fE first N Fm Un) (lE N Fm Un) := hs2.now.file
  refine (GD.open hD4 hT hw0 (by omega) (hs2.now.nm) (by rw [hfo]; omega) (by have := hs2.now.len; exact Nat.le_trans this (by decide)) _ _ hld).mono ?_
  rintro e w5 ⟨r, rfl, hG5, _⟩
  exact ⟨r, rfl, _, hG5⟩

theorem EF.miss {w0 w : World} {r q N Fm Un : Nat} {first : Int} (h : EF w0 w r q first N Fm Un) (h1 : 1 ≤ first) (i : Nat) (hi : ¬ (Un ≤ i ∧ i < kE N Fm)) :
    Calls Tryz.prog 81 #[.pointer (some ⟨r, 0, none⟩), .int .i64 (first + i)] w fun e w' => e = .returned (.tuple #[.slice none 0 0, .bool false]) ∧ Hid (EF w0 w' r q first N Fm Un) := by
  obtain ⟨s, F, hL, hF, hb⟩ := h
  refine (get_miss _ r q s F _ _ (first + i) w hL ?_).mono ?_
  · right
    have hll : (lE N Fm Un).length = kE N Fm - gE N Fm Un := by unfold lE; rw [List.length_drop, dE_len]
    unfold lastL
    rw [hll]
    unfold fE
    by_cases hg : gE N Fm Un = kE N Fm
    · right
      rw [if_pos (by omega)]
      omega
    · rw [if_neg hg, if_neg (by unfold gE at *; omega)]
      unfold gE at *
      omega
  · rintro e w' ⟨rfl, m, rfl⟩
    exact ⟨rfl, s, F, hL.drew m, hF, hb.trans ⟨rfl, rfl, rfl, Nat.le_refl _, fun _ _ => rfl⟩⟩
theorem EF.hit {w0 w : World} {r q N Fm Un : Nat} {first : Int} (h : EF w0 w r q first N Fm Un) (h1 : 1 ≤ first) (h2 : first ≤ 1099511627776) (hN : N ≤ 60) (i : Nat) (hi : Un ≤ i ∧ i < kE N Fm) :
    Calls Tryz.prog 81 #[.pointer (some ⟨r, 0, none⟩), .int .i64 (first + i)] w fun e w' => ∃ g cap, e = .returned (.tuple #[.slice (some ⟨g, 0, none⟩) 2 cap, .bool true]) ∧ w'.cell? ⟨g, 0, none⟩ = some (.int .u8 (i : Int)) ∧ Hid (EF w0 w' r q first N Fm Un) := by
  obtain ⟨s, F, hL, hF, hb⟩ := h
  have hg : gE N Fm Un = Un := by unfold gE; omega
  have hkN : kE N Fm ≤ N := by unfold kE; omega
  have hll : (lE N Fm Un).length = kE N Fm - Un := by unfold lE; rw [List.length_drop, dE_len, hg]
  have hf : fE first N Fm Un = first + Un := by unfold fE; rw [if_neg (by omega), hg]
  have hd : (lE N Fm Un)[i - Un]'(by omega) = [UInt8.ofNat i, 7] := by
    simp only [lE, List.getElem_drop, hg]
    rw [dE_get]
    congr 2
    omega
  have hget := get_hit _ r q s F _ _ (i - Un) w hL (by omega) (by omega) (by omega) (by omega) (by rw [hd]; simp)
  rw [hf, hd, show first + (Un : Int) + ((i - Un : Nat) : Int) = first + i by omega] at hget
  refine hget.mono ?_
  rintro e w' ⟨v', rfl, hO, hbb⟩
  rcases own_shape hO with ⟨_, e0⟩ | ⟨g, cap, rfl, _⟩
  · simp at e0
  refine ⟨g, cap, rfl, ?_, s, F, hL.below hbb, hF, hb.trans (hbb.mono hb.size)⟩
  rw [hO.cellAt 0 (by simp)]
  simp [cells8]
  omega
theorem EF.last {w0 w : World} {r q N Fm Un : Nat} {first : Int} (h : EF w0 w r q first N Fm Un) (h1 : 1 ≤ first) :
    Calls Tryz.prog 48 #[.pointer (some ⟨r, 0, none⟩)] w fun e w' => ∃ l : Int, e = .returned (.int .i64 l) ∧ decide (l = 0) = decide (kE N Fm ≤ Un) ∧ Hid (Below w0.heap.size w0 w') := by
  obtain ⟨s, F, hL, hF, hb⟩ := h
  refine hL.last.mono ?_
  rintro e w' ⟨rfl, m, rfl⟩
  refine ⟨_, rfl, ?_, hb.trans ⟨rfl, rfl, rfl, Nat.le_refl _, fun _ _ => rfl⟩⟩
  have hll : (lE N Fm Un).length = kE N Fm - gE N Fm Un := by unfold lE; rw [List.length_drop, dE_len]
  rw [decide_eq_decide]
  unfold lastL
  rw [hll]
  unfold fE
  by_cases hg : gE N Fm Un = kE N Fm
  · rw [if_pos (by omega)]
    unfold gE at *
    omega
  · rw [if_neg hg, if_neg (by unfold gE at *; omega)]
    unfold gE at *
    omega
end Go.Proofs.YtjndgekpdmlbiaaGreatDoor.Wl
namespace Go.Proofs.YtjndgekpdmlbiaaGreatDoor.Wl
open Go.RowKit Dk

theorem room_M : roomN 1048576 = 1048576 := by decide
theorem openS_empty (R : Int) : openS ⟨R, [], []⟩ = ⟨R, [], []⟩ := by
  have hf : fileOf (⟨R, [], []⟩ : St) nmW = [] := rfl
  unfold openS
  rw [hf, Fr.scan_nil]
  rfl
/-- A new disk and a log on it. -/
theorem fresh_any {w0 w1 : World} (hb1 : Below w0.heap.size w0 w1) (hT : ∀ u, Below w0.heap.size w0 u → Fr.Tab u) (hw0 : 0 < w0.heap.size) : Calls Tryz.prog 9 #[.int .i64 1048576] w1 fun e w2 => ∃ pd, e = .returned (.pointer (some ⟨pd, 0, none⟩)) ∧ Hid (Calls Tryz.prog 25 #[.pointer (some ⟨pd, 0, none⟩)] w2 fun e w3 => ∃ p, e = .returned (.tuple #[.pointer (some ⟨p, 0, none⟩), .int .i64 0]) ∧ Hid (GD w0 w3 p pd ⟨1048576, [], []⟩ 0 [])) := by
  refine (new_any 1048576 w1).mono ?_
  rintro e w2 ⟨rfl, hD2, hb2⟩
  rw [room_M] at hD2
  refine ⟨_, rfl, ?_⟩
  have hs1 := hb1.size
  have hb2' : Below w0.heap.size w0 w2 := hb1.trans (hb2.mono hs1)
  have hf : fileOf (⟨1048576, [], []⟩ : St) nmW = [] := rfl
  refine (GD.open (w0 := w0) ⟨_, hD2, fun j hj => ?_, hb2'⟩ hT hw0 (by simp [St.mass, Dk.mass, wmass]) (fun f hf => by simp [St.now, Dk.run] at hf) (by rw [hf]; decide) (by simp [St.now, Dk.run]) 0 [] (by rw [hf, Fr.scan_nil]; rfl)).mono ?_
  · rcases hj with hh | hh
    · exact hh.elim
    · omega
  · rintro e w3 ⟨p, rfl, hG, _⟩
    rw [openS_empty] at hG
    exact ⟨p, rfl, hG⟩
theorem Gs_empty : Gs ⟨1048576, [], []⟩ 0 [] 0 1 := ⟨rfl, Or.inl ⟨rfl, rfl⟩, by simp [St.mass, Dk.mass, wmass], by simp, by simp, by simp⟩

end Go.Proofs.YtjndgekpdmlbiaaGreatDoor.Wl
namespace Go.Proofs.YtjndgekpdmlbiaaGreatDoor.Wl
open Go.RowKit Dk

/-- A log and its disk, their blocks among H. -/
def LX (w : World) (p pd : Nat) (s : St) (H : Nat → Prop) (first : Int) (ds : List (List UInt8)) : Prop :=
  ∃ F vr rs G, Dk w pd s F ∧ Lg w p pd first vr rs G ∧ rs.map Re.data = ds ∧ (∀ k, G k → ¬ F k) ∧ ¬ F p ∧ (∀ k, F k → H k) ∧ (∀ k, G k → H k) ∧ H p ∧ ∀ k, H k → k < w.heap.size
theorem LX.lw {w : World} {p pd : Nat} {s : St} {H : Nat → Prop} {first : Int} {ds : List (List UInt8)} (h : LX w p pd s H first ds) : ∃ F, LW w 0 p pd s F first ds ∧ ∀ k, F k → H k := by
  obtain ⟨F, vr, rs, G, h1, h2, h3, h4, h5, h6, h7, h8, h9⟩ := h
  exact ⟨F, ⟨h1, ⟨vr, rs, G, h2, h3, fun k hk => ⟨h4 k hk, Nat.zero_le _⟩⟩, h5, Nat.zero_le _⟩, h6⟩
theorem LX.lt {w : World} {p pd : Nat} {s : St} {H : Nat → Prop} {first : Int} {ds : List (List UInt8)} (h : LX w p pd s H first ds) : ∀ k, H k → k < w.heap.size := by
  obtain ⟨F, vr, rs, G, h1, h2, h3, h4, h5, h6, h7, h8, h9⟩ := h
  exact h9
/-- What else happens leaves it. -/
theorem LX.kept {w w' : World} {p pd : Nat} {s : St} {H K : Nat → Prop} {first : Int} {ds : List (List UInt8)} (h : LX w p pd s H first ds) (hf : Dk.Fr K w w') (hd : ∀ k, H k → ¬ K k) : LX w' p pd s H first ds := by
  obtain ⟨F, vr, rs, G, h1, h2, h3, h4, h5, h6, h7, h8, h9⟩ := h
  exact ⟨F, vr, rs, G, h1.kept hf (fun k hk => hd k (h6 k hk)), h2.kept hf (fun k hk => hd k (h7 k hk)) (hd p h8), h3, h4, h5, h6, h7, h8, fun k hk => Nat.lt_of_lt_of_le (h9 k hk) hf.size⟩
theorem LX.below {w w' : World} {p pd : Nat} {s : St} {H : Nat → Prop} {first : Int} {ds : List (List UInt8)} (h : LX w p pd s H first ds) (hb : Below w.heap.size w w') : LX w' p pd s H first ds := h.kept (K := fun _ => False) (Fr.of_below hb) (fun _ _ => id)
theorem LX.drew {w : World} {p pd : Nat} {s : St} {H : Nat → Prop} {first : Int} {ds : List (List UInt8)} (h : LX w p pd s H first ds) (m : Nat) : LX (w.drewN m) p pd s H first ds := h.below ⟨rfl, rfl, rfl, Nat.le_refl _, fun _ _ => rfl⟩
theorem LX.zero {w : World} {p pd : Nat} {s : St} {H : Nat → Prop} {first : Int} {ds : List (List UInt8)} (h : LX w p pd s H first ds) : ds = [] → first = 0 := by
  obtain ⟨F, hL, _⟩ := h.lw
  exact hL.fit.2.2
theorem below_drew (w : World) (m : Nat) : Below w.heap.size w (w.drewN m) := ⟨rfl, rfl, rfl, Nat.le_refl _, fun _ _ => rfl⟩
theorem ext_of_lt {H : Nat → Prop} {w w' : World} (k : Nat) (h : H k) : ext H w w' k := Or.inl h
/-- Once more, with more blocks. -/
theorem LX.wide {w w' : World} {p pd : Nat} {s : St} {H : Nat → Prop} {first : Int} {ds : List (List UInt8)} (h : LX w' p pd s H first ds) : LX w' p pd s (ext H w w') first ds := by
  obtain ⟨F, vr, rs, G, h1, h2, h3, h4, h5, h6, h7, h8, h9⟩ := h
  exact ⟨F, vr, rs, G, h1, h2, h3, h4, h5, fun k hk => Or.inl (h6 k hk), fun k hk => Or.inl (h7 k hk), Or.inl h8, fun k hk => by
    rcases hk with hk | hk
    · exact h9 k hk
    · omega⟩

/-- Sync. -/
theorem LX.sync {w : World} {p pd : Nat} {s : St} {H : Nat → Prop} {first : Int} {ds : List (List UInt8)} (h : LX w p pd s H first ds) (hm : s.mass ≤ 1000000) :
    Calls Tryz.prog 57 #[.pointer (some ⟨p, 0, none⟩)] w fun e w' => e = .returned (.tuple #[]) ∧ Hid (LX w' p pd ⟨s.room, s.now, []⟩ (ext H w w') first ds ∧ Dk.Fr H w w') := by
  obtain ⟨F, vr, rs, G, h1, h2, rfl, h4, h5, h6, h7, h8, h9⟩ := h
  have hW : LW w 0 p pd s F first (rs.map Re.data) := ⟨h1, ⟨vr, rs, G, h2, rfl, fun k hk => ⟨h4 k hk, Nat.zero_le _⟩⟩, h5, Nat.zero_le _⟩
  have c0 := hW.cell0
  have HA : Hid (_) := sync_any pd s F w h1 (by omega)
  have HX : Hid (∀ w', Dk w' pd ⟨s.room, s.now, []⟩ (ext F w w') → Dk.Fr F w w' → LX w' p pd ⟨s.room, s.now, []⟩ (ext H w w') first (rs.map Re.data) ∧ Dk.Fr H w w') := by
    intro w' hD hf
    have hs := hf.size
    refine ⟨⟨_, vr, rs, G, hD, h2.kept hf (fun k hk hF => h4 k hk hF) h5, rfl, fun k hk hF => ?_, fun hF => ?_, fun k hk => ?_, fun k hk => Or.inl (h7 k hk), Or.inl h8, fun k hk => ?_⟩, hf.mono (fun k _ hk => h6 k hk)⟩
    · rcases hF with hF | hF
      · exact h4 k hk hF
      · have := h2.lt k hk; omega
    · rcases hF with hF | hF
      · exact h5 hF
      · have := h2.plt; omega
    · rcases hk with hk | hk
      · exact Or.inl (h6 k hk)
      · exact Or.inr hk
    · rcases hk with hk | hk
      · have := h9 k hk; omega
      · omega
  clear hW h1 h2 h4 h5 h6 h7 h8 h9
  go_enter Tryz.func57, Tryz.ntmps57
  go_wp2_with (go_at_call 96; refine Calls.mono HA.out ?_; rintro e w1 ⟨rfl, g1, g2⟩; have HF : Hid (_) := HX.out w1 g1 g2; clear g1 g2)
  go_end0
  exact ⟨rfl, HF.out⟩

set_option maxHeartbeats 2000000 in
/-- Append. -/
theorem LX.app {w : World} {p pd : Nat} {s : St} {H : Nat → Prop} {first : Int} {ds : List (List UInt8)} (h : LX w p pd s H first ds) (ht : Fr.Tab w) (n : Int) (bv : Value) (b : List UInt8) (hS : SlA w bv b H) (hn : n ≤ 9223372036854775807) (hm : mayL first ds n = true) (hl : b.length ≤ 32768)
    (hr : (used s.now : Int) + (recB n b).length ≤ s.room) (hf : (Dk.look nmW s.now).isSome = true ∨ s.now.length < 64) (hms : s.mass + 40000 ≤ 1000000000) (hdl : ds.length ≤ 100000) (hfl : (fileB first ds).length ≤ 900000000) :
    Calls Tryz.prog 121 #[.pointer (some ⟨p, 0, none⟩), .int .i64 n, bv] w fun e w' => e = .returned (.int .i64 0) ∧ Hid (LX w' p pd (s.push (.app nmW (recB n b))) (ext H w w') (if ds.length = 0 then n else first) (ds ++ [b]) ∧ Dk.Fr H w w') := by
  obtain ⟨F, vr, rs, G, d1, d2, rfl, d4, d5, d6, d7, d8, d9⟩ := h
  have hW : LW w 0 p pd s F first (rs.map Re.data) := ⟨d1, ⟨vr, rs, G, d2, rfl, fun k hk => ⟨d4 k hk, Nat.zero_le _⟩⟩, d5, Nat.zero_le _⟩
  obtain ⟨aob, capb, rfl, _, _⟩ := hS.sl.shape
  have HM : Hid (_) := hW.may n hn
  rw [hm] at HM
  obtain ⟨m1, m2⟩ : 1 ≤ n ∧ ((rs.map Re.data).length = 0 ∨ n - 1 = (if (rs.map Re.data).length = 0 then 0 else first + (rs.map Re.data).length - 1)) := by simpa [mayL] using hm
  have hrs := recB_size n b ⟨by omega, hn⟩ hl
  obtain ⟨X, HX⟩ : ∃ X, Hid (X = recB n b) := ⟨_, (rfl : _ = _)⟩
  rw [← HX.out] at hr hrs ⊢
  obtain ⟨f', Hf'⟩ : ∃ f', Hid (f' = if (rs.map Re.data).length = 0 then n else first) := ⟨_, (rfl : _ = _)⟩
  rw [← Hf'.out]
  obtain ⟨PP, HPP⟩ : ∃ PP : World → Prop, Hid (PP = fun w' => LX w' p pd (s.push (.app nmW X)) (ext H w w') f' (rs.map Re.data ++ [b]) ∧ Dk.Fr H w w') := ⟨_, (rfl : _ = _)⟩
  have HC : Hid (∀ m, Calls Tryz.prog 137 #[.int .i64 n, .slice aob b.length capb] (w.drewN m) fun e w2 => ∃ ao cap, e = .returned (.slice ao X.length cap) ∧ w2.cell? ⟨p, 0, none⟩ = some (.pointer (some ⟨pd, 0, none⟩)) ∧ Hid (Calls Tryz.prog 132 #[.pointer (some ⟨pd, 0, none⟩), .string nmW, .slice ao X.length cap] w2 fun e w3 => e = .returned (.int .i64 0) ∧ Hid (Calls Tryz.prog 58 #[.slice aob b.length capb] w3 fun e w4 => ∃ ao4 cap4, e = .returned (.slice ao4 b.length cap4) ∧ Hid (Calls Tryz.prog 76 #[.pointer (some ⟨p, 0, none⟩), .int .i64 n, .slice ao4 b.length cap4, .int .i64 (X.length : Int)] w4 fun e w5 => e = .returned (.tuple #[]) ∧ Hid (PP w5))))) := by
    intro m
    have hb1 := below_drew w m
    refine (seal_any n (.slice aob b.length capb) b (w.drewN m) (hS.sl.below hb1) (ht.drew m) ⟨by omega, hn⟩ hl).mono ?_
    rintro e w2 ⟨ao, L, cap, rfl, hO, hb2⟩
    have hb2' : Below w.heap.size w w2 := hb1.trans hb2
    have hSX := Sl.of_own hO
    obtain ⟨ao', cap', e2, _, _⟩ := hSX.shape
    simp only [Value.slice.injEq] at e2
    obtain ⟨rfl, rfl, rfl⟩ := e2
    rw [← HX.out] at hSX ⊢
    have hW2 := hW.below hb2'
    refine ⟨ao, cap, rfl, hW2.cell0, ?_⟩
    refine (append_ok pd s F nmW _ X w2 hW2.dk hSX (by decide) hr hf (by omega)).mono ?_
    rintro e w3 ⟨rfl, hD3, hf3⟩
    refine ⟨rfl, ?_⟩
    have hs2 := hb2'.size
    have hs3 := hf3.size
    have hSF : SlA w (.slice aob b.length capb) b F := ⟨hS.sl, fun a m c e hFa => hS.away a m c e (d6 _ hFa)⟩
    refine (clone_any _ b w3 (SlA.kept (SlA.kept hSF (Fr.of_below hb2')) hf3).sl (by omega)).mono ?_
    rintro e w4 ⟨v4, rfl, hO4, hb4⟩
    have hS4 := Sl.of_own hO4
    obtain ⟨ao4, cap4, rfl, _, _⟩ := hS4.shape
    refine ⟨ao4, cap4, rfl, ?_⟩
    have hL3 : Lg w3 p pd first vr rs G := (d2.below hb2').kept hf3 (fun k hk hF => d4 k hk hF) d5
    have hL := hL3.below hb4
    have hD4 := hD3.below hb4
    have hLG := d2.lt
    have hp3 := d2.plt
    have hF3 := hD3.lt
    have hs4 := hb4.size
    have hNew : Bn.New w3 w4 (.slice ao4 b.length cap4) := Bn.New.of_own hO4 (Nat.le_refl _)
    have hsize : sizeK first rs rs.length = (fileB first (rs.map Re.data)).length := by
      unfold sizeK
      rw [List.take_of_length_le (by simp)]
    rw [List.length_map] at hdl m2
    refine (add_any p pd first vr rs G (fun k => ∃ a m c, Value.slice ao4 b.length cap4 = .slice (some a) m c ∧ k = a.block) n (.slice ao4 b.length cap4) b X.length w4 hL ⟨hS4, fun a m c e hn => hn ⟨a, m, c, e, rfl⟩⟩ ?_ (by rw [HX.out]) ⟨m1, hn⟩ ?_ (by omega) (by rw [hsize]; omega)).mono ?_
    · rintro k ⟨a, m, c, e, rfl⟩
      have hk := hNew a m c e
      refine ⟨fun hG' => ?_, ?_, hk.2⟩
      · have := hLG _ hG'
        omega
      · omega
    · intro hne
      have hz : rs.length ≠ 0 := fun e => hne (List.eq_nil_of_length_eq_zero e)
      rcases m2 with m2 | m2
      · exact absurd m2 hz
      · rw [if_neg hz] at m2
        omega
    · rintro e w5 ⟨rfl, ⟨vr', fin, hL5⟩, hf5⟩
      have hs5 := hf5.size
      have hff : f' = if rs.length = 0 then n else first := by rw [Hf'.out, List.length_map]
      refine ⟨rfl, ?_⟩
      rw [HPP.out]
      refine ⟨⟨ext F w2 w3, vr', rs ++ [⟨_, b, fin⟩], _, hD4.kept hf5 (fun k hk hG' => ?_), by rw [hff]; exact hL5, by simp, fun k hk hF => ?_, fun hF => ?_, fun k hk => ?_, fun k hk => ?_, Or.inl d8, fun k hk => ?_⟩, ?_⟩
      · rcases hk with hk | hk
        · rcases hG' with hG' | rfl
          · exact d4 k hG' hk
          · exact d5 hk
        · rcases hG' with hG' | rfl
          · have := hLG k hG'; omega
          · omega
      · rcases hk with (hk | ⟨a, m, c, e, rfl⟩) | hk
        · rcases hF with hF | hF
          · exact d4 k hk hF
          · have := hLG k hk; omega
        · have h1 := (hNew a m c e).1
          have h2 := hF3 _ hF
          omega
        · have h2 := hF3 _ hF
          omega
      · rcases hF with hF | hF
        · exact d5 hF
        · omega
      · rcases hk with hk | hk
        · exact Or.inl (d6 k hk)
        · exact Or.inr (by omega)
      · rcases hk with (hk | ⟨a, m, c, e, rfl⟩) | hk
        · exact Or.inl (d7 k hk)
        · have h1 := hNew a m c e
          exact Or.inr (by omega)
        · exact Or.inr (by omega)
      · rcases hk with hk | hk
        · have := d9 k hk; omega
        · omega
      · refine (((Fr.of_below hb2').trans (hf3.mono (G := H) (fun k _ hk => d6 k hk)) (fun _ _ h => h)).trans (Fr.of_below hb4) (fun _ _ h => h)).trans hf5 (fun k _ hG' => ?_)
        rcases hG' with hG' | rfl
        · exact d7 k hG'
        · exact d8
  have HP := HPP.out
  rw [funext_iff] at HP
  simp only [← HP]
  clear hW hS ht hn hm hr hf hms hdl hfl m1 m2 hrs d1 d2 d4 d5 d6 d7 d8 d9 HP HPP
  have hl' : ¬ (32768 : Int) < (b.length : Int) := by omega
  simp only [nmW] at HC
  go_enter Tryz.func121, Tryz.ntmps121
  go_wp2_with (first
    | (go_at_call 75; refine Calls.mono HM.out ?_; rintro e w1 ⟨rfl, m, rfl⟩; have HC1 : Hid (_) := HC.out m; clear HC)
    | (go_at_call 137; refine Calls.mono HC1.out ?_; rintro e w2 ⟨ao2, cap2, rfl, c2, HC2⟩; clear HC1)
    | (go_at_call 132; refine Calls.mono HC2.out ?_; rintro e w3 ⟨rfl, HC3⟩; clear HC2)
    | (go_at_call 58; refine Calls.mono HC3.out ?_; rintro e w4 ⟨ao4, cap4, rfl, HC4⟩; clear HC3)
    | (go_at_call 76; refine Calls.mono HC4.out ?_; rintro e w5 ⟨rfl, HC5⟩; clear HC4))
  go_ret
  exact ⟨rfl, HC5⟩
end Go.Proofs.YtjndgekpdmlbiaaGreatDoor.Wl
namespace Go.Proofs.YtjndgekpdmlbiaaGreatDoor.Wl
open Go.RowKit Dk

set_option maxHeartbeats 2000000 in
set_option maxRecDepth 20000 in
theorem from_gen (p pd : Nat) (n : Int) (k N z : Nat) (ao : Option Addr) (cap : Nat) (w : World) (PP : World → Prop) (h1 : 1 ≤ n) (hn : n ≤ 9223372036854775807) (hkN : k ≠ N)
    (HC : Hid (Calls Tryz.prog 79 #[.pointer (some ⟨p, 0, none⟩), .int .i64 (n - 1)] w fun e w' => e = .returned (.int .i64 (k : Nat)) ∧ ∃ m, w' = w.drewN m)) (c0 : w.cell? ⟨p, 0, none⟩ = some (.pointer (some ⟨pd, 0, none⟩))) (c2 : w.cell? ⟨p, 2, none⟩ = some (.slice ao N cap))
    (HE : Hid (∀ m, Calls Tryz.prog 77 #[.pointer (some ⟨p, 0, none⟩), .int .i64 (k : Int)] (w.drewN m).drew fun e w' => e = .returned (.int .i64 (z : Int)) ∧ w' = (w.drewN m).drew))
    (HX : Hid (∀ m, Calls Tryz.prog 78 #[.pointer (some ⟨pd, 0, none⟩), .string nmW, .int .i64 (z : Int)] (w.drewN m).drew fun e w3 => e = .returned (.int .i64 0) ∧ w3.cell? ⟨p, 0, none⟩ = some (.pointer (some ⟨pd, 0, none⟩)) ∧ Hid (Calls Tryz.prog 80 #[.pointer (some ⟨p, 0, none⟩), .int .i64 (k : Int)] w3 fun e w' => e = .returned (.tuple #[]) ∧ Hid (PP w')))) :
    Calls Tryz.prog 49 #[.pointer (some ⟨p, 0, none⟩), .int .i64 n] w fun e w' => e = .returned (.int .i64 0) ∧ Hid (PP w') := by
  have HD : Hid (∀ m, (w.drewN m).cell? ⟨p, 2, none⟩ = some (.slice ao N cap)) := fun m => c2
  have HD0 : Hid (∀ m, (w.drewN m).drew.cell? ⟨p, 0, none⟩ = some (.pointer (some ⟨pd, 0, none⟩))) := fun m => c0
  have hne : ((k : Int) == (N : Int)) = false := by rw [beq_eq_false_iff_ne]; omega
  simp only [nmW] at HX
  clear c2 c0
  go_enter Tryz.func49, Tryz.ntmps49
  go_wp2_with (go_at_call 79; refine Calls.mono HC.out ?_; rintro e w1 ⟨rfl, m, rfl⟩; have d2 := HD.out m; have d0 := HD0.out m; have HEm : Hid (_) := HE.out m; have HXm : Hid (_) := HX.out m; clear HD HD0 HE HX)
  go_region_held (fun u => u.cell? ⟨p, 0, none⟩ = some (.pointer (some ⟨pd, 0, none⟩)))
    (first | exact d0 | exact d3)
    (first
      | (go_at_call 77; refine Calls.mono HEm.out ?_; rintro e w' ⟨rfl, hw⟩; have hw' := hw.symm; subst hw')
      | (go_at_call 78; refine Calls.mono HXm.out ?_; rintro e w3 ⟨rfl, d3, HY⟩))
  go_wp2_with (go_at_call 80; refine Calls.mono HY.out ?_; rintro e w4 ⟨rfl, HZ⟩)
  go_ret
  exact ⟨rfl, HZ⟩

set_option maxHeartbeats 1000000 in
theorem until_gen (p : Nat) (n : Int) (k : Nat) (w : World) (PP : World → Prop) (h1 : 1 ≤ n) (h0 : 0 < k)
    (HC : Hid (Calls Tryz.prog 79 #[.pointer (some ⟨p, 0, none⟩), .int .i64 n] w fun e w' => e = .returned (.int .i64 (k : Nat)) ∧ ∃ m, w' = w.drewN m))
    (HX : Hid (∀ m, Calls Tryz.prog 111 #[.pointer (some ⟨p, 0, none⟩), .int .i64 (k : Int)] (w.drewN m) fun e w3 => e = .returned (.int .i64 0) ∧ Hid (Calls Tryz.prog 112 #[.pointer (some ⟨p, 0, none⟩), .int .i64 (k : Int)] w3 fun e w' => e = .returned (.tuple #[]) ∧ Hid (PP w')))) :
    Calls Tryz.prog 87 #[.pointer (some ⟨p, 0, none⟩), .int .i64 n] w fun e w' => e = .returned (.int .i64 0) ∧ Hid (PP w') := by
  have hne : ((k : Int) == 0) = false := by rw [beq_eq_false_iff_ne]; omega
  clear h0
  go_enter Tryz.func87, Tryz.ntmps87
  go_wp2_with (first
    | (go_at_call 79; refine Calls.mono HC.out ?_; rintro e w1 ⟨rfl, m, rfl⟩; have HXm : Hid (_) := HX.out m; clear HX)
    | (go_at_call 111; refine Calls.mono HXm.out ?_; rintro e w3 ⟨rfl, HY⟩)
    | (go_at_call 112; refine Calls.mono HY.out ?_; rintro e w4 ⟨rfl, HZ⟩))
  go_ret
  exact ⟨rfl, HZ⟩

/-- The disk has gone on, then the log's memory. -/
theorem LX.go {w w3 w' : World} {p pd : Nat} {s' : St} {H F F' G : Nat → Prop} {first first' : Int} {vr vr' : Value} {rs rs' : List Re} (d2 : Lg w p pd first vr rs G) (d4 : ∀ k, G k → ¬ F k) (d5 : ¬ F p) (d6 : ∀ k, F k → H k) (d7 : ∀ k, G k → H k) (d8 : H p) (d9 : ∀ k, H k → k < w.heap.size)
    (hD : Dk w3 pd s' F') (hF' : ∀ k, F' k → F k ∨ w.heap.size ≤ k) (hf : Dk.Fr F w w3) (hL : Lg w' p pd first' vr' rs' G) (hf' : Dk.Fr (fun k => G k ∨ k = p) w3 w') : LX w' p pd s' (ext H w w') first' (rs'.map Re.data) ∧ Dk.Fr H w w' := by
  have hs := hf.size
  have hs' := hf'.size
  have hplt := d2.plt
  have hlt := hD.lt
  refine ⟨⟨F', vr', rs', G, hD.kept hf' (fun k hk hG => ?_), hL, rfl, fun k hk hF => ?_, fun hF => ?_, fun k hk => ?_, fun k hk => Or.inl (d7 k hk), Or.inl d8, fun k hk => ?_⟩, (hf.mono (fun k _ hk => d6 k hk)).trans hf' (fun k _ hG => ?_)⟩
  · rcases hF' k hk with h | h
    · rcases hG with hG | rfl
      · exact d4 k hG h
      · exact d5 h
    · rcases hG with hG | rfl
      · have := d2.lt k hG; omega
      · omega
  · rcases hF' k hF with h | h
    · exact d4 k hk h
    · have := d2.lt k hk; omega
  · rcases hF' p hF with h | h
    · exact d5 h
    · omega
  · rcases hF' k hk with h | h
    · exact Or.inl (d6 k h)
    · exact Or.inr ⟨h, by have := hlt k hk; omega⟩
  · rcases hk with hk | hk
    · have := d9 k hk; omega
    · omega
  · rcases hG with hG | rfl
    · exact d7 k hG
    · exact d8

theorem LX.from {w : World} {p pd : Nat} {s : St} {H : Nat → Prop} {first : Int} {ds : List (List UInt8)} {N M : Nat} (h : LX w p pd s H first ds) (hG : Gs s first ds N M) (hN : N ≤ 80) (hM : M ≤ 900000) (n : Int) (k : Nat) (h1 : 1 ≤ n) (hn : n ≤ 9223372036854775807) (hk : cnt first ds (n - 1) = k) :
    Calls Tryz.prog 49 #[.pointer (some ⟨p, 0, none⟩), .int .i64 n] w fun e w' => e = .returned (.int .i64 0) ∧ Hid (LX w' p pd (fromS s first ds k) (ext H w w') (if k = 0 then 0 else first) (ds.take k) ∧ Dk.Fr H w w') := by
  have hkl := cnt_le first ds (n - 1) (by omega)
  have hdl := hG.len
  have hms := hG.mass
  rw [hk] at hkl
  obtain ⟨F0, hW0, _⟩ := h.lw
  by_cases he : k = ds.length
  · refine (from_same _ p pd s _ first ds n w hW0 h1 hn (by rw [hk, he])).mono ?_
    rintro e w' ⟨rfl, m, rfl⟩
    have hf : (if k = 0 then 0 else first) = first := by
      split
      · exact (h.zero (List.eq_nil_of_length_eq_zero (by omega))).symm
      · rfl
    rw [hf, List.take_of_length_le (by omega), fromS, if_pos he]
    exact ⟨rfl, (h.drew m).wide, Fr.of_below (below_drew w m)⟩
  · have hne : ds ≠ [] := fun e => by rw [e] at hkl he; simp at hkl he; omega
    obtain ⟨F, vr, rs, G, d1, d2, rfl, d4, d5, d6, d7, d8, d9⟩ := h
    have hW : LW w 0 p pd s F first (rs.map Re.data) := ⟨d1, ⟨vr, rs, G, d2, rfl, fun k hk => ⟨d4 k hk, Nat.zero_le _⟩⟩, d5, Nat.zero_le _⟩
    obtain ⟨ao, cap, c2⟩ := hW.cell2
    have hlook := hG.now.look hne
    refine from_gen p pd n k (rs.map Re.data).length (fileB first ((rs.map Re.data).take k)).length ao cap w _ h1 hn he ?_ hW.cell0 c2 (fun m => ((hW.drew m).drew 1).endOf k (by omega) (by omega)) (fun m => ?_)
    · have hcc := count_any 0 p pd s F first (rs.map Re.data) (n - 1) w hW (by omega) (by omega)
      rw [hk] at hcc
      exact hcc
    · have hbd : Below w.heap.size w (w.drewN m).drew := ⟨rfl, rfl, rfl, Nat.le_refl _, fun _ _ => rfl⟩
      refine (cut_ok pd s F nmW _ ⟨nmW, fileB first (rs.map Re.data)⟩ (w.drewN m).drew (d1.below hbd) hlook (fileB_take_le first _ k) (by omega)).mono ?_
      rintro e w3 ⟨rfl, hD3, hf3⟩
      have hfw : Dk.Fr F w w3 := (Fr.of_below hbd).trans hf3 (fun _ _ h => h)
      have hL3 := d2.kept hfw (fun k hk hF => d4 k hk hF) d5
      refine ⟨rfl, hL3.cells.1, ?_⟩
      have hrl : (rs.map Re.data).length = rs.length := List.length_map _
      refine (dropBack_any p pd first vr rs G k w3 hL3 (by omega) (by omega)).mono ?_
      rintro e w' ⟨rfl, ⟨vr', hL⟩, hf⟩
      refine ⟨rfl, ?_⟩
      have hgo := LX.go d2 d4 d5 d6 d7 d8 d9 hD3 (fun k hk => by rcases hk with hk | hk; exact Or.inl hk; exact Or.inr hk.1) hfw hL hf
      rw [List.map_take] at hgo
      rw [fromS, if_neg he]
      exact hgo

theorem LX.until {w : World} {p pd : Nat} {s : St} {H : Nat → Prop} {first : Int} {ds : List (List UInt8)} {N M : Nat} (h : LX w p pd s H first ds) (hG : Gs s first ds N M) (ht : Fr.Tab w) (hN : N ≤ 80) (hM : M ≤ 900000) (n : Int) (k : Nat) (h1 : 1 ≤ n) (hn : n ≤ 9223372036854775806) (hk : cnt first ds n = k) :
    Calls Tryz.prog 87 #[.pointer (some ⟨p, 0, none⟩), .int .i64 n] w fun e w' => e = .returned (.int .i64 0) ∧ Hid (LX w' p pd (untilS s first ds k) (ext H w w') (if k = ds.length then 0 else first + k) (ds.drop k) ∧ Dk.Fr H w w') := by
  have hkl := cnt_le first ds n (by omega)
  have hdl := hG.len
  have hms := hG.mass
  have hfl := hG.file
  have hfi := hG.fit
  rw [hk] at hkl
  obtain ⟨F0, hW0, _⟩ := h.lw
  by_cases h0 : k = 0
  · refine (until_same _ p pd s _ first ds n w hW0 h1 hn (by rw [hk, h0])).mono ?_
    rintro e w' ⟨rfl, m, rfl⟩
    have hf : (if k = ds.length then 0 else first + k) = first := by
      split
      · exact (h.zero (List.eq_nil_of_length_eq_zero (by omega))).symm
      · rw [h0]; simp
    rw [hf, h0, List.drop_zero, untilS, if_pos rfl]
    exact ⟨rfl, (h.drew m).wide, Fr.of_below (below_drew w m)⟩
  · have hne : ds ≠ [] := fun e => by rw [e] at hkl; simp at hkl; omega
    obtain ⟨F, vr, rs, G, d1, d2, rfl, d4, d5, d6, d7, d8, d9⟩ := h
    have hW : LW w 0 p pd s F first (rs.map Re.data) := ⟨d1, ⟨vr, rs, G, d2, rfl, fun k hk => ⟨d4 k hk, Nat.zero_le _⟩⟩, d5, Nat.zero_le _⟩
    have hlook := hG.now.look hne
    have hcc := count_any 0 p pd s F first (rs.map Re.data) n w hW (by omega) (by omega)
    rw [hk] at hcc
    have hrl : (rs.map Re.data).length = rs.length := List.length_map _
    refine until_gen p n k w _ h1 (by omega) hcc (fun m => ?_)
    have HK : Calls Tryz.prog 111 #[.pointer (some ⟨p, 0, none⟩), .int .i64 (k : Int)] (w.drewN m) fun e w' => e = .returned (.int .i64 0) ∧ Hid (∃ F', LW w' 0 p pd (untilS s first (rs.map Re.data) k) F' first (rs.map Re.data) ∧ (∀ j, F' j → F j ∨ (w.drewN m).heap.size ≤ j) ∧ Dk.Fr F (w.drewN m) w') := by
      unfold untilS
      rw [if_neg h0]
      by_cases he : k = (rs.map Re.data).length
      · rw [if_pos he, he]
        exact cutFront_all 0 p pd s F first (rs.map Re.data) _ _ (hW.drew m) hlook (by omega)
      · rw [if_neg he]
        have hsp := congrArg List.length (fileB_split first (rs.map Re.data) k hkl)
        rw [List.length_append] at hsp
        have hnl := hG.now.len
        have hu := hG.now.used
        exact cutFront_some 0 p pd s F first (rs.map Re.data) k _ (hW.drew m) (ht.drew m) (by omega) (by omega) (fun d hd => by have := hG.small d hd; omega) (by omega) (by omega) (by rw [hu, hG.room]; omega) (Or.inr (by omega)) (by omega)
    refine HK.mono ?_
    rintro e w3 ⟨rfl, F', hW3, hF', hf3⟩
    have hfw : Dk.Fr F w w3 := (Fr.of_below (below_drew w m)).trans hf3 (fun _ _ h => h)
    have hL3 := d2.kept hfw (fun k hk hF => d4 k hk hF) d5
    refine ⟨rfl, ?_⟩
    refine (dropFront_any p pd first vr rs G k w3 hL3 (by omega) (by omega) (by omega) (by omega) (by omega)).mono ?_
    rintro e w' ⟨rfl, ⟨vr', rs', hL, hrd⟩, hf⟩
    refine ⟨rfl, ?_⟩
    have hgo := LX.go d2 d4 d5 d6 d7 d8 d9 hW3.dk hF' hfw hL hf
    rw [hrd] at hgo
    rw [hrl]
    exact hgo

/-- Crash of its disk: what is left stands on a disk of its own. -/
theorem LX.crash {w : World} {p pd : Nat} {s : St} {H : Nat → Prop} {first : Int} {ds : List (List UInt8)} (h : LX w p pd s H first ds) (hM : s.mass ≤ 1000000) (n t : Int) :
    Calls Tryz.prog 16 #[.pointer (some ⟨pd, 0, none⟩), .int .i64 n, .int .i64 t] w fun e w' => ∃ q, e = .returned (.pointer (some ⟨q, 0, none⟩)) ∧ Hid (Dk w' q ⟨s.room, Dk.leftOf s n t, []⟩ (ext (fun _ => False) w w') ∧ Below w.heap.size w w') := by
  obtain ⟨F, hW, _⟩ := h.lw
  refine (crash_any pd s F n t w hW.dk (by omega)).mono ?_
  rintro e w' ⟨q, rfl, hq, hD, hb⟩
  exact ⟨q, rfl, hD, hb⟩
/-- Open of a disk. -/
theorem LX.open {w : World} {q : Nat} {s : St} {F : Nat → Prop} (hD : Dk w q s F) (ht : Fr.Tab w) (h0 : ¬ F 0) (hm : s.mass ≤ 1000000) (hn : Nm s.now) (hf : (fileOf s nmW).length ≤ 30000) (hlen : s.now.length ≤ 100) (first : Int) (ds : List (List UInt8)) (hR : loadR (Fr.scanL (fileOf s nmW)).1 0 [] = (first, ds)) :
    Calls Tryz.prog 25 #[.pointer (some ⟨q, 0, none⟩)] w fun e w' => ∃ p, e = .returned (.tuple #[.pointer (some ⟨p, 0, none⟩), .int .i64 0]) ∧ Hid (LX w' p q (openS s) (ext F w w') first ds ∧ Dk.Fr F w w') := by
  have hlt := hD.lt
  refine (open_any q s F w hD ht h0 (by omega) hn hf first ds hR).mono ?_
  rintro e w' ⟨p, rfl, ⟨F', hL, hF'⟩, hf'⟩
  obtain ⟨g1, ⟨vr, rs, G, a1, a2, a3⟩, g2, g3⟩ := hL
  have hs := hf'.size
  refine ⟨p, rfl, ⟨F', vr, rs, G, g1, a1, a2, fun k hk => (a3 k hk).1, g2, fun k hk => ?_, fun k hk => Or.inr ⟨(a3 k hk).2, a1.lt k hk⟩, Or.inr ⟨g3, a1.plt⟩, fun k hk => ?_⟩, hf'⟩
  · rcases hF' k hk with h | h
    · exact Or.inl h
    · exact Or.inr ⟨h, g1.lt k hk⟩
  · rcases hk with hk | hk
    · have := hlt k hk; omega
    · omega
end Go.Proofs.YtjndgekpdmlbiaaGreatDoor.Wl
namespace Go.Proofs.YtjndgekpdmlbiaaGreatDoor.Kp
open Go.RowKit Bn

theorem LXlast {w : World} {p pd : Nat} {s : Dk.St} {H : Nat → Prop} {first : Int} {ds : List (List UInt8)} (h : Wl.LX w p pd s H first ds) :
    Calls Tryz.prog 48 #[.pointer (some ⟨p, 0, none⟩)] w fun e w' => e = .returned (.int .i64 (Wl.lastL first ds)) ∧ ∃ m, w' = w.drewN m := by
  obtain ⟨F, hW, _⟩ := h.lw
  exact hW.last
theorem LXfirst {w : World} {p pd : Nat} {s : Dk.St} {H : Nat → Prop} {first : Int} {ds : List (List UInt8)} (h : Wl.LX w p pd s H first ds) :
    Calls Tryz.prog 50 #[.pointer (some ⟨p, 0, none⟩)] w fun e w' => e = .returned (.int .i64 first) ∧ w' = w := by
  obtain ⟨F, hW, _⟩ := h.lw
  exact hW.first
theorem bel_drew (w : World) : Below w.heap.size w w.drew := (Below.refl _ w).drew

def lnOf : Value → Nat
  | .slice _ n _ => n
  | _ => 0
/-- What appendPieces leaves. -/
def PcR (w : World) (p pd : Nat) (s : Dk.St) (H : Nat → Prop) (t : List UInt8) (w' : World) : Prop :=
  Wl.LX w' p pd (s.push (.app Wl.nmW (Wl.recB 1 (fl true ++ t)))) (Dk.ext H w w') 1 [fl true ++ t] ∧ Dk.Fr H w w'

set_option maxHeartbeats 2000000 in
theorem pieces_one {w : World} {kb p pd : Nat} {s : Dk.St} {H : Nat → Prop} (h : Wl.LX w p pd s H 0 []) (ht : Fr.Tab w) (ck : w.cell? ⟨kb, 7, none⟩ = some (.pointer (some ⟨p, 0, none⟩))) (hk : ¬ H kb)
    (ao : Option Addr) (L cap : Nat) (t : List UInt8) (b : Nat) (hO : w.ownsRow b 5 1 (.slice ao L cap) t.length (cells8 t)) (h0 : 0 < t.length) (hl : t.length ≤ 32767)
    (hr : (Dk.used s.now : Int) + (Wl.recB 1 (fl true ++ t)).length ≤ s.room) (hf : (Dk.look Wl.nmW s.now).isSome = true ∨ s.now.length < 64) (hms : s.mass + 40000 ≤ 1000000000) :
    Calls Tryz.prog 94 #[.pointer (some ⟨kb, 0, none⟩), .slice ao L cap] w fun e w' => e = .returned (.int .i64 0) ∧ Hid (PcR w p pd s H t w') := by
  obtain ⟨g, rfl, hL, hLc, hcm⟩ : ∃ g, ao = some ⟨g, 0, none⟩ ∧ L = t.length ∧ L ≤ cap ∧ cap ≤ maxLen := by
    rcases Dk.own_shape hO with ⟨_, h0'⟩ | ⟨g, c, e, h1, h2, _⟩
    · omega
    · simp only [Value.slice.injEq] at e
      obtain ⟨e1, rfl, rfl⟩ := e
      exact ⟨g, e1, rfl, h1, h2⟩
  have HST : Hid (Sl w (.slice (some ⟨g, 0, none⟩) L cap) t) := Sl.of_own hO
  have HX := hide h
  have HCK := hide ck
  have HT := hide ht
  have HLL := hide hL
  have HAP : Hid (∀ W a2 L2 c2, Below w.heap.size w W → W.ownsRow w.heap.size 5 1 (.slice a2 L2 c2) (fl true ++ t).length (cells8 (fl true ++ t)) → Calls Tryz.prog 121 #[.pointer (some ⟨p, 0, none⟩), .int .i64 1, .slice a2 L2 c2] W fun e w4 => e = .returned (.int .i64 0) ∧ w4.cell? ⟨kb, 7, none⟩ = some (.pointer (some ⟨p, 0, none⟩)) ∧ Hid (PcR w p pd s H t w4)) := fun W a2 L2 c2 hb ho => by
    have hX := HX.out.below hb
    have hlt := HX.out.lt
    refine (hX.app (HT.out.below hb) 1 _ (fl true ++ t) (Dk.SlA.of_own ho (fun k hk hH => by have h1 := (ho.lt k hk).1; have h2 := hlt k hH; omega)) (by omega) (by simp [Wl.mayL]) (by simp [fl]; omega) hr hf hms (by simp) (by simp [Wl.fileB])).mono ?_
    rintro e w4 ⟨rfl, hP⟩
    obtain ⟨h1, h2⟩ := hP.out
    have hfr : Dk.Fr H w w4 := (Dk.Fr.of_below (F := H) hb).trans h2 (fun _ _ h => h)
    refine ⟨rfl, hfr.cell HCK.out hk, ?_, hfr⟩
    have h3 : Wl.LX w4 p pd (s.push (.app Wl.nmW (Wl.recB 1 (fl true ++ t)))) (Dk.ext H W w4) 1 [fl true ++ t] := by simpa using h1
    obtain ⟨F, vr, rs, G, d1, d2, d3, d4, d5, d6, d7, d8, d9⟩ := h3
    have hw : ∀ k, Dk.ext H W w4 k → Dk.ext H w w4 k := fun k hk => by
      rcases hk with hk | hk
      · exact Or.inl hk
      · exact Or.inr ⟨Nat.le_trans hb.size hk.1, hk.2⟩
    exact ⟨F, vr, rs, G, d1, d2, d3, d4, d5, fun k hk => hw k (d6 k hk), fun k hk => hw k (d7 k hk), hw p d8, fun k hk => by
      rcases hk with hk | hk
      · have := hlt k hk; have := hfr.size; omega
      · exact hk.2⟩
  have HFL : Hid (Calls Tryz.prog 120 #[.bool true] w.drew fun e w1 => ∃ af Lf cf, e = .returned (.slice af Lf cf) ∧ ∃ a2 L2 c2 w2, (∀ ty, (Builtin.append_ #[33, 33] ty #[.slice af Lf cf, .slice (some ⟨g, 0, none⟩) L cap]).run Tryz.prog w1 = .ok (.slice a2 L2 c2) w2) ∧ Hid (w2.ownsRow w.heap.size 5 1 (.slice a2 L2 c2) (fl true ++ t).length (cells8 (fl true ++ t)) ∧ Below w.heap.size w w2)) := by
    refine (flag_any true w.drew).mono ?_
    rintro e w1 ⟨af, Lf, cf, rfl, hP⟩
    obtain ⟨ho, hb⟩ := hP.out
    have hb1 : Below w.heap.size w w1 := (bel_drew w).trans hb
    obtain ⟨a2, L2, c2, w2, hr2, ho2, hg2⟩ := Wl.run_append_bytes w1 w.heap.size (.slice af Lf cf) (fl true) ⟨g, 0, none⟩ L cap t ho (HST.out.below hb1) (by simp [fl]; omega) hb1.size
    exact ⟨af, Lf, cf, rfl, a2, L2, c2, w2, hr2, ho2, hb1.grown hg2 hb1.size (fun k hk => (ho.lt k hk).1)⟩
  have hLI : (L : Int) ≤ 32767 := by omega
  have hLn : ¬ (32767 : Int) < (L : Int) := by omega
  have hLp : (0 : Int) < (L : Int) := by omega
  have hLcI : (L : Int) ≤ (cap : Int) := by omega
  clear h ck ht hO h0 hl hr hf hms hL hcm hk
  go_enter Tryz.func94, Tryz.ntmps94
  go_wp2_with fail
  go_loopw [1] (fun tv wr => (tv = .slice (some ⟨g, 0, none⟩) L cap ∧ wr = w) ∨ ∃ a c, tv = .slice a 0 c ∧ Hid (PcR w p pd s H t wr)) (fun tv _ => lnOf tv)
  case atStart => exact Or.inl ⟨rfl, rfl⟩
  case round =>
    rcases hrel with ⟨rfl, hw⟩ | ⟨a, c, rfl, HP⟩
    · have hw' := hw.symm
      subst hw'
      go_wp2_with fail
      refine wp_region_noPanic ?_
      go_region_law (first
        | (go_simp; go_at_call 120; refine Calls.mono HFL.out ?_; rintro e w1 ⟨af, Lf, cf, rfl, a2, L2, c2, w2, hap, HO2⟩)
        | (refine Dk.step_append_run (by rfl) (.tmp 18) (.tmp 21) 33 33 (by rfl) _ _ (by rfl) (by rfl) (hap _) ?_))
      all_goals
        refine NoPanic.normal ?_
        have c7 : w2.drew.cell? ⟨kb, 7, none⟩ = some (.pointer (some ⟨p, 0, none⟩)) := (World.cell?_of_block (w := w) (a := ⟨kb, 7, none⟩) (HO2.out.2.block kb (cell_lt HCK.out))).trans HCK.out
        have HLS : Hid (Calls Tryz.prog 48 #[.pointer (some ⟨p, 0, none⟩)] w2.drew fun e w3 => e = .returned (.int .i64 0) ∧ w3.cell? ⟨kb, 7, none⟩ = some (.pointer (some ⟨p, 0, none⟩)) ∧ Hid (Calls Tryz.prog 121 #[.pointer (some ⟨p, 0, none⟩), .int .i64 1, .slice a2 L2 c2] w3 fun e w4 => e = .returned (.int .i64 0) ∧ w4.cell? ⟨kb, 7, none⟩ = some (.pointer (some ⟨p, 0, none⟩)) ∧ Hid (PcR w p pd s H t w4))) := by
          have hb2 : Below w.heap.size w w2.drew := HO2.out.2.trans ((bel_drew w2).mono HO2.out.2.size)
          refine (LXlast (HX.out.below hb2)).mono ?_
          rintro e w3 ⟨rfl, m, rfl⟩
          refine ⟨rfl, c7, ?_⟩
          exact HAP.out _ a2 L2 c2 (hb2.trans ((Wl.below_drew w2.drew m).mono hb2.size)) HO2.out.1
        clear HAP HX HT HFL HO2 hap
        go_wp2_with fail
        go_region_held (fun u => u.cell? ⟨kb, 7, none⟩ = some (.pointer (some ⟨p, 0, none⟩)))
          (first | exact c7 | exact d3 | exact d4)
          (first
            | (go_at_call 48; refine Calls.mono HLS.out ?_; rintro e w3 ⟨rfl, d3, HY⟩)
            | (go_at_call 121; refine Calls.mono HY.out ?_; rintro e w4 ⟨rfl, d4, HZ⟩))
        go_wp2_with fail
        exact ⟨Or.inr ⟨_, _, rfl, HZ⟩, by show 0 < L; omega⟩
    · go_wp2_with fail
      go_ret
      exact ⟨rfl, HP⟩
end Go.Proofs.YtjndgekpdmlbiaaGreatDoor.Kp

/- Constants: what may be one, in plain mathematics; the walks of isSmall, isDigit, isWord and of the reference's Name. The walks of May, Less, Eq and of the reference's own; Cut. The table's map: its entries in the order in which the constants came; a look-up, an update. -/
import Derived.Test.YtcmjfgjnemifbaaDoorRows
import Derived.WalkKit
import Derived.WalkSpells
import Derived.WalkLawsBesides
import Derived.BigQuiet
import Derived.Maps.AppendAt
import Derived.MapKept
import Derived.Maps.OwnSet
namespace Go.Proofs.YtcmjfgjnemifbaaDoor
open Go.RowKit

/-- A small letter; a digit; what may stand behind a word's first letter. -/
def smallN (n : Nat) : Bool := decide (97 ≤ n) && decide (n ≤ 122)
def digitN (n : Nat) : Bool := decide (48 ≤ n) && decide (n ≤ 57)
def restN (n : Nat) : Bool := smallN n || digitN n || decide (n = 95)
/-- The byte at a place, as a number. -/
def bt (s : ByteArray) (j : Nat) : Nat := (s.data.toList.getD j 0).toNat
theorem bt_lt (s : ByteArray) (j : Nat) : bt s j < 256 := UInt8.toNat_lt _
theorem bt_at (s : ByteArray) (j : Nat) (h : j < s.size) : (s[j]'h).toNat = bt s j := by
  unfold bt
  rw [List.getD, Array.getElem?_toList, Array.getElem?_eq_getElem (show j < s.data.size from h)]
  rfl

def wordS (s : ByteArray) : Bool := decide (1 ≤ s.size) && decide (s.size ≤ 16) && smallN (bt s 0) && (List.range s.size).all fun j => j == 0 || restN (bt s j)

theorem wordS_iff (s : ByteArray) : wordS s = true ↔ 1 ≤ s.size ∧ s.size ≤ 16 ∧ smallN (bt s 0) = true ∧ ∀ j, 1 ≤ j → j < s.size → restN (bt s j) = true := by
  unfold wordS
  simp only [Bool.and_eq_true, decide_eq_true_eq, List.all_eq_true, List.mem_range, Bool.or_eq_true, beq_iff_eq]
  constructor
  · rintro ⟨⟨⟨h1, h2⟩, h3⟩, h4⟩
    exact ⟨h1, h2, h3, fun j hj hl => (h4 j hl).resolve_left (by omega)⟩
  · rintro ⟨h1, h2, h3, h4⟩
    exact ⟨⟨⟨h1, h2⟩, h3⟩, fun j hl => if hj : j = 0 then Or.inl hj else Or.inr (h4 j (by omega) hl)⟩

theorem ret_bool {a b : Bool} (h : a = b) : Ending.returned (.bool a) = Ending.returned (.bool b) := by rw [h]

theorem isSmall_any (n : Nat) (w : World) :
    Calls Tryd.prog 30 #[.int .u8 (n : Int)] w fun e w' => e = .returned (.bool (smallN n)) ∧ w' = w := by
  go_enter Tryd.func30, Tryd.ntmps30
  go_wp2
  all_goals (go_ret; refine ⟨ret_bool ?_, rfl⟩; unfold smallN; rw [Bool.eq_iff_iff]; simp; omega)

theorem isDigit_any (n : Nat) (w : World) :
    Calls Tryd.prog 31 #[.int .u8 (n : Int)] w fun e w' => e = .returned (.bool (digitN n)) ∧ w' = w := by
  go_enter Tryd.func31, Tryd.ntmps31
  go_wp2
  all_goals (go_ret; refine ⟨ret_bool ?_, rfl⟩; unfold digitN; rw [Bool.eq_iff_iff]; simp; omega)

theorem wordS_not {s : ByteArray} (h : ¬ (1 ≤ s.size ∧ s.size ≤ 16 ∧ smallN (bt s 0) = true ∧ ∀ j, 1 ≤ j → j < s.size → restN (bt s j) = true)) : wordS s = false := by
  rw [← wordS_iff] at h
  simpa using h

theorem rest_more {s : ByteArray} {k a : Nat} (h : ∀ j, a ≤ j → j < k → restN (bt s j) = true) (hk : restN (bt s k) = true) : ∀ j, a ≤ j → j < k + 1 → restN (bt s j) = true := by
  intro j hj hl
  by_cases e : j < k
  · exact h j hj e
  · have : j = k := by omega
    rw [this]; exact hk

set_option maxHeartbeats 1000000 in
theorem isWord_any (s : ByteArray) (w : World) :
    Calls Tryd.prog 24 #[.string s] w fun e w' => e = .returned (.bool (wordS s)) ∧ w' = w := by
  by_cases h1 : 1 ≤ s.size
  · by_cases h16 : s.size ≤ 16
    · have b0 := bt_at s 0 h1
      go_enter Tryd.func24, Tryd.ntmps24
      go_wp2_with (first
        | (go_at_call 30; refine (isSmall_any _ _).mono ?_; rintro e w' ⟨rfl, hw⟩; have hw' := hw.symm; subst hw'; clear hw)
        | (go_at_call 31; refine (isDigit_any _ _).mono ?_; rintro e w' ⟨rfl, hw⟩; have hw' := hw.symm; subst hw'; clear hw))
      · have hb : smallN (bt s 0) = false := by
          rename_i hx
          rcases hx with hx | hx
          · omega
          · simpa using hx
        go_ret
        refine ⟨ret_bool (wordS_not ?_).symm, rfl⟩
        rintro ⟨_, _, h3, _⟩
        rw [hb] at h3
        cases h3
      · have hb : Hid (smallN (bt s 0) = true) := by
          rename_i hx _ _
          show _ = _
          simpa using hx.2
        rename_i hx _ _
        clear hx
        go_loopw [3] (fun i wr => ∃ k : Nat, 1 ≤ k ∧ k ≤ s.size ∧ i = .int .i64 k ∧ Hid (∀ j, 1 ≤ j → j < k → restN (bt s j) = true) ∧ wr = w) (fun i _ => s.size - (intOf i).toNat)
        case atStart => exact ⟨1, Nat.le_refl _, h1, rfl, fun j h1 h2 => by omega, rfl⟩
        case round =>
          obtain ⟨k, hk1, hk, rfl, hh, hw⟩ := hrel
          have hw' := hw.symm
          subst hw'
          by_cases hlt : k < s.size
          · have bk := bt_at s k hlt
            go_wp2_with (first
              | (go_at_call 30; refine (isSmall_any _ _).mono ?_; rintro e w' ⟨rfl, hw⟩; have hw' := hw.symm; subst hw'; clear hw)
              | (go_at_call 31; refine (isDigit_any _ _).mono ?_; rintro e w' ⟨rfl, hw⟩; have hw' := hw.symm; subst hw'; clear hw))
            · rename_i hx
              go_roundw
              case rel => exact ⟨k + 1, by omega, by omega, by go_num, rest_more hh.out (by simp [restN, hx]), trivial⟩
              case measure => simp [intOf]; omega
            · rename_i hx
              go_roundw
              case rel => exact ⟨k + 1, by omega, by omega, by go_num, rest_more hh.out (by simp [restN, hx]), trivial⟩
              case measure => simp [intOf]; omega
            · have hx2 : ¬ smallN (bt s k) = true := by assumption
              have hx1 : ¬ digitN (bt s k) = true := by assumption
              rename_i hx
              go_ret
              refine ⟨ret_bool (wordS_not ?_).symm, rfl⟩
              rintro ⟨_, _, _, h4⟩
              have := h4 k hk1 hlt
              have hne : bt s k ≠ 95 := by
                intro e
                rw [e] at hx
                exact absurd hx (by decide)
              simp [restN, hne] at this
              rcases this with h | h
              · exact hx2 h
              · exact hx1 h
            · rename_i hx
              have hne : bt s k = 95 := by
                have : ((bt s k : Nat) : Int) = 95 := by simpa using hx
                omega
              go_roundw
              case rel => exact ⟨k + 1, by omega, by omega, by go_num, rest_more hh.out (by simp [restN, hne]), trivial⟩
              case measure => simp [intOf]; omega
          · have hke : k = s.size := by omega
            subst hke
            go_wp2
            go_ret
            exact ⟨ret_bool ((wordS_iff s).2 ⟨h1, h16, hb.out, hh.out⟩).symm, rfl⟩
    · go_enter Tryd.func24, Tryd.ntmps24
      go_wp2
      go_ret
      exact ⟨ret_bool (wordS_not fun h => h16 h.2.1).symm, rfl⟩
  · go_enter Tryd.func24, Tryd.ntmps24
    go_wp2
    go_ret
    exact ⟨ret_bool (wordS_not fun h => h1 h.1).symm, rfl⟩

theorem ref_not {n k : Nat} (h : ¬ ((¬ (smallN n = true)) ∧ (k = 0 ∨ ¬ (digitN n = true ∨ n = 95)))) : (k = 0 → smallN n = true) ∧ restN n = true := by
  unfold restN
  by_cases h1 : smallN n = true <;> by_cases h2 : digitN n = true <;> by_cases h3 : n = 95 <;> simp_all

set_option maxHeartbeats 1000000 in
theorem name_any (s : ByteArray) (w : World) (hs : s.size ≤ 4611686018427387904) :
    Calls Tryd.prog 25 #[.string s] w fun e w' => e = .returned (.bool (wordS s)) ∧ w' = w := by
  go_enter Tryd.func25, Tryd.ntmps25
  go_wp2
  go_loop [3] (fun i => ∃ k : Nat, k ≤ s.size ∧ i = .int .i64 k ∧ Hid (∀ j, 1 ≤ j → j < k → restN (bt s j) = true) ∧ Hid (0 < k → smallN (bt s 0) = true)) (fun i => s.size - (intOf i).toNat)
  case atStart => exact ⟨0, Nat.zero_le _, rfl, fun j h1 h2 => by omega, fun h => by omega⟩
  case round =>
    obtain ⟨k, hk, rfl, hh, h0⟩ := hrel
    by_cases hlt : k < s.size
    · have bk := bt_at s k hlt
      have hbad : ¬ smallN (bt s k) = true → (k = 0 ∨ ¬ restN (bt s k) = true) → wordS s = false := fun h1 h2 => wordS_not fun ⟨_, _, h3, h4⟩ => by
        rcases Nat.eq_zero_or_pos k with e | e
        · rw [e] at h1; exact h1 h3
        · rcases h2 with h2 | h2
          · omega
          · exact h2 (h4 k e hlt)
      have hgood : restN (bt s k) = true → (k = 0 → smallN (bt s k) = true) → Hid (∀ j, 1 ≤ j → j < k + 1 → restN (bt s j) = true) ∧ Hid (0 < k + 1 → smallN (bt s 0) = true) := fun h1 h2 => ⟨rest_more hh.out h1, fun _ => by
        rcases Nat.eq_zero_or_pos k with e | e
        · have := h2 e; rw [e] at this; exact this
        · exact h0.out e⟩
      have HB : Hid _ := hbad
      have HG : Hid _ := hgood
      clear hbad hgood
      rcases Nat.eq_zero_or_pos k with rfl | hpos
      all_goals generalize hn : bt s _ = n at bk HB HG
      all_goals (by_cases a1 : (97 : Int) ≤ n <;> by_cases a2 : (n : Int) ≤ 122 <;> by_cases a3 : (48 : Int) ≤ n <;> by_cases a4 : (n : Int) ≤ 57 <;> by_cases a5 : n = 95 <;> first | omega | skip)
      all_goals (try (have ak' : ((k : Int) == 0) = false := by simp; omega))
      all_goals (try (have a5' : ((n : Int) == 95) = true := by simpa using (show (n : Int) = 95 by omega)))
      all_goals (try (have a5' : ((n : Int) == 95) = false := by simpa using (show ¬ (n : Int) = 95 by omega)))
      all_goals go_wp2
      all_goals first
        | (go_round
           case rel => exact ⟨_, by omega, by go_num, (HG.out (by simp [restN, smallN, digitN]; omega) (by simp [smallN]; omega)).1, (HG.out (by simp [restN, smallN, digitN]; omega) (by simp [smallN]; omega)).2⟩
           case measure => simp [intOf]; omega)
        | (go_ret
           exact ⟨ret_bool (HB.out (by simp [smallN]; omega) (by first | exact Or.inl trivial | (simp [restN, smallN, digitN]; omega))).symm, rfl⟩)
        | trace_state
    · have hke : k = s.size := by omega
      subst hke
      go_wp2
      · go_ret
        refine ⟨ret_bool ?_, rfl⟩
        rw [Bool.eq_iff_iff, wordS_iff]
        have e1 : 1 ≤ s.size := by omega
        simp only [decide_eq_true_eq]
        exact ⟨fun h => ⟨e1, by omega, h0.out e1, hh.out⟩, fun h => by omega⟩
      · go_ret
        exact ⟨ret_bool (wordS_not fun h => by omega).symm, rfl⟩

end Go.Proofs.YtcmjfgjnemifbaaDoor
namespace Go.Proofs.YtcmjfgjnemifbaaDoor
open Go.RowKit

/-- May a term be a constant? -/
def mayT (k : Int) (s : ByteArray) (n : Int) : Bool :=
  if k = 3 then s.toList.isEmpty && decide (-2147483648 ≤ n) && decide (n ≤ 2147483648)
  else if k = 2 then decide (n = 0) && wordS s else false

theorem below_box (w : World) (o : Obj) : Below w.heap.size w (w.alloc o) := (Below.refl _ _).alloc (Nat.le_refl _) o
theorem below_box2 (w : World) (o o' : Obj) : Below w.heap.size w ((w.alloc o).alloc o') := (below_box w o).alloc (by simp) o'

set_option maxHeartbeats 1000000 in
theorem may_any (k n : Int) (s : ByteArray) (w : World) :
    Calls Tryd.prog 9 #[.agg #[.int .i64 k, .string s, .int .i64 n]] w fun e w' => e = .returned (.bool (mayT k s n)) ∧ Below w.heap.size w w' := by
  by_cases h3 : k = 3
  · subst h3
    go_enter Tryd.func9, Tryd.ntmps9
    go_wp2
    all_goals (go_ret; refine ⟨ret_bool ?_, below_box _ _⟩; simp_all [mayT] <;> omega)
  · have h3' : (k == 3) = false := by simpa using h3
    by_cases h2 : k = 2
    · subst h2
      go_enter Tryd.func9, Tryd.ntmps9
      go_wp2_with (go_at_call 24; refine (isWord_any _ _).mono ?_; rintro e w' ⟨rfl, hw⟩; have hw' := hw.symm; subst hw'; clear hw)
      all_goals (go_ret; refine ⟨ret_bool ?_, below_box _ _⟩; simp_all [mayT])
    · have h2' : (k == 2) = false := by simpa using h2
      go_enter Tryd.func9, Tryd.ntmps9
      go_wp2
      all_goals (go_ret; refine ⟨ret_bool ?_, below_box _ _⟩; simp_all [mayT])

set_option maxHeartbeats 1000000 in
theorem mayRef_any (k n : Int) (s : ByteArray) (w : World) (hs : s.size ≤ 4611686018427387904) :
    Calls Tryd.prog 10 #[.agg #[.int .i64 k, .string s, .int .i64 n]] w fun e w' => e = .returned (.bool (mayT k s n)) ∧ Below w.heap.size w w' := by
  by_cases h3 : k = 3
  · subst h3
    go_enter Tryd.func10, Tryd.ntmps10
    go_wp2
    all_goals (go_ret; refine ⟨ret_bool ?_, below_box _ _⟩; simp_all [mayT] <;> omega)
  · have h3' : (k == 3) = false := by simpa using h3
    by_cases h2 : k = 2
    · subst h2
      go_enter Tryd.func10, Tryd.ntmps10
      go_wp2_with (go_at_call 25; refine (name_any _ _ hs).mono ?_; rintro e w' ⟨rfl, hw⟩; have hw' := hw.symm; subst hw'; clear hw)
      all_goals (go_ret; refine ⟨ret_bool ?_, below_box _ _⟩; simp_all [mayT])
    · have h2' : (k == 2) = false := by simpa using h2
      go_enter Tryd.func10, Tryd.ntmps10
      go_wp2
      all_goals (go_ret; refine ⟨ret_bool ?_, below_box _ _⟩; simp_all [mayT])

/-- How two constants are ordered; whether they are one. -/
def lessT (k : Int) (s : ByteArray) (x : Int) (k' : Int) (s' : ByteArray) (y : Int) : Bool :=
  if k = 3 then (if k' = 3 then decide (x < y) else true) else if k' = 3 then false else Op.bytesLess s.toList s'.toList
def eqT (k : Int) (s : ByteArray) (x : Int) (k' : Int) (s' : ByteArray) (y : Int) : Bool := decide (k = k') && decide (s.toList = s'.toList) && decide (x = y)

set_option maxHeartbeats 1000000 in
theorem less_any (k k' x y : Int) (s s' : ByteArray) (w : World) (hk : k = 2 ∨ k = 3) (hk' : k' = 2 ∨ k' = 3) :
    Calls Tryd.prog 11 #[.agg #[.int .i64 k, .string s, .int .i64 x], .agg #[.int .i64 k', .string s', .int .i64 y]] w fun e w' => e = .returned (.bool (lessT k s x k' s' y)) ∧ Below w.heap.size w w' := by
  rcases hk with rfl | rfl <;> rcases hk' with rfl | rfl
  all_goals (go_enter Tryd.func11, Tryd.ntmps11)
  all_goals go_wp2
  all_goals go_ret
  all_goals exact ⟨ret_bool (by simp [lessT]), below_box2 _ _ _⟩

set_option maxHeartbeats 1000000 in
theorem lessRef_any (k k' x y : Int) (s s' : ByteArray) (w : World) (hk : k = 2 ∨ k = 3) (hk' : k' = 2 ∨ k' = 3) :
    Calls Tryd.prog 12 #[.agg #[.int .i64 k, .string s, .int .i64 x], .agg #[.int .i64 k', .string s', .int .i64 y]] w fun e w' => e = .returned (.bool (lessT k s x k' s' y)) ∧ Below w.heap.size w w' := by
  rcases hk with rfl | rfl <;> rcases hk' with rfl | rfl
  all_goals (go_enter Tryd.func12, Tryd.ntmps12)
  all_goals go_wp2
  all_goals go_ret
  all_goals exact ⟨ret_bool (by simp [lessT]), below_box2 _ _ _⟩

set_option maxHeartbeats 1000000 in
theorem eq_any (k k' x y : Int) (s s' : ByteArray) (w : World) :
    Calls Tryd.prog 13 #[.agg #[.int .i64 k, .string s, .int .i64 x], .agg #[.int .i64 k', .string s', .int .i64 y]] w fun e w' => e = .returned (.bool (eqT k s x k' s' y)) ∧ Below w.heap.size w w' := by
  go_enter Tryd.func13, Tryd.ntmps13
  go_wp2
  all_goals go_ret
  all_goals exact ⟨ret_bool (by simp_all [eqT]), below_box2 _ _ _⟩

set_option maxHeartbeats 1000000 in
theorem eqRef_any (k k' x y : Int) (s s' : ByteArray) (w : World) :
    Calls Tryd.prog 14 #[.agg #[.int .i64 k, .string s, .int .i64 x], .agg #[.int .i64 k', .string s', .int .i64 y]] w fun e w' => e = .returned (.bool (eqT k s x k' s' y)) ∧ Below w.heap.size w w' := by
  go_enter Tryd.func14, Tryd.ntmps14
  go_wp2
  all_goals go_ret
  all_goals exact ⟨ret_bool (by rw [Bool.eq_iff_iff]; simp_all [eqT]), below_box2 _ _ _⟩

/-- A string's first bytes. -/
def cutS (s : ByteArray) (n : Nat) : ByteArray := if n < s.size then s.extract 0 n else s

set_option maxHeartbeats 1000000 in
theorem cutS_any (s : ByteArray) (n : Nat) (w : World) :
    Calls Tryd.prog 21 #[.string s, .int .i64 (n : Int)] w fun e w' => e = .returned (.string (cutS s n)) ∧ w' = w := by
  go_enter Tryd.func21, Tryd.ntmps21
  go_wp2
  all_goals go_ret
  · rename_i h
    rw [cutS, if_pos h]
    exact ⟨rfl, rfl⟩
  · rename_i h
    rw [cutS, if_neg h]
    exact ⟨rfl, rfl⟩

set_option maxHeartbeats 1000000 in
theorem cutT_any (k x : Int) (s : ByteArray) (w : World) :
    Calls Tryd.prog 8 #[.agg #[.int .i64 k, .string s, .int .i64 x]] w fun e w' => e = .returned (.agg #[.int .i64 k, .string (cutS s 20), .int .i64 x]) ∧ Below w.heap.size w w' := by
  go_enter Tryd.func8, Tryd.ntmps8
  go_wp2_with (go_at_call 21; refine (cutS_any _ 20 _).mono ?_; rintro e w' ⟨rfl, hw⟩; have hw' := hw.symm; subst hw'; clear hw)
  exact bodyPost_ret (v := .agg #[.int .i64 k, .string (cutS s 20), .int .i64 x]) (by simp [results, Tryd.results8, go_sem]) rfl ⟨rfl, below_box2 _ _ _⟩

end Go.Proofs.YtcmjfgjnemifbaaDoor
namespace Go.Proofs.YtcmjfgjnemifbaaDoor
open Go.RowKit Go.MapKept

theorem run_equal23 (k k' x y : Int) (s s' : ByteArray) (w : World) :
    (Op.equal 23 (.agg #[.int .i64 k, .string s, .int .i64 x]) (.agg #[.int .i64 k', .string s', .int .i64 y])).run Tryd.prog w = .ok (eqT k s x k' s' y) w := by
  unfold Op.equal Op.maxDepth
  by_cases h1 : k = k' <;> by_cases h2 : s.toList = s'.toList <;> by_cases h3 : x = y <;> simp [eqT, h1, h2, h3, go_sem]

abbrev Tm := Int × ByteArray × Int
/-- A term as a value, as cells. -/
def tv (t : Tm) : Value := .agg #[.int .i64 t.1, .string t.2.1, .int .i64 t.2.2]
def eqM (a b : Tm) : Bool := eqT a.1 a.2.1 a.2.2 b.1 b.2.1 b.2.2

/-- The entries of the map, from number i on. -/
def ents : Nat → List Tm → List MapEntry
  | _, [] => []
  | i, t :: r => { key := tv t, val := .int .i64 ((i : Int) + 1), born := i } :: ents (i + 1) r
/-- The place of a constant. -/
def find : List Tm → Tm → Nat → Option Nat
  | [], _, _ => none
  | a :: r, t, i => if eqM t a then some i else find r t (i + 1)

theorem ents_snoc (i : Nat) (L : List Tm) (t : Tm) : ents i (L ++ [t]) = ents i L ++ [{ key := tv t, val := .int .i64 ((i + L.length : Nat) + 1 : Int), born := i + L.length }] := by
  induction L generalizing i with
  | nil => simp [ents]
  | cons a r ih =>
    simp only [List.cons_append, ents, ih, List.length_cons]
    rw [show i + 1 + r.length = i + (r.length + 1) by omega]

theorem run_asking (t : Tm) (w : World) : ∀ (L : List Tm) (i j : Nat), (Instr.findAsking 23 (tv t) (ents i L) j).run Tryd.prog w = .ok ((find L t j).map fun q => (q, .int .i64 ((i + q - j : Int) + 1))) w := by
  intro L
  induction L with
  | nil => intro i j; simp [ents, Instr.findAsking, find, go_sem]
  | cons a r ih =>
    intro i j
    have h : (Op.equal 23 (tv t) (tv a)).run Tryd.prog w = .ok (eqM t a) w := run_equal23 t.1 a.1 t.2.2 a.2.2 t.2.1 a.2.1 w
    simp only [ents, Instr.findAsking, find, Sem.run_bind, h, Result.andThen_ok]
    cases he : eqM t a
    · have h2 := ih (i + 1) (j + 1)
      simp only [Bool.false_eq_true, if_false, h2]
      congr 1
      cases find r t (j + 1) with
      | none => rfl
      | some q =>
        simp only [Option.map_some, Option.some.injEq, Prod.mk.injEq, true_and]
        congr 1
        omega
    · simp only [if_true, Option.map_some]
      rw [show (i : Int) + (j : Nat) - (j : Int) + 1 = (i : Int) + 1 by omega]
      rfl

theorem run_checkKey23 (b : Bool) (t : Tm) (w : World) : (Instr.checkKey b 10000 23 (tv t)).run Tryd.prog w = .ok () w := by
  have h3 : (Instr.checkKey b 9999 3 (.int .i64 t.1)).run Tryd.prog w = .ok () w := run_checkKey Tryd.underlying3 (by simp [IsKey]) b 9998
  have h9 : (Instr.checkKey b 9999 9 (.string t.2.1)).run Tryd.prog w = .ok () w := run_checkKey Tryd.underlying9 (by simp [IsKey]) b 9998
  have h2 : (Instr.checkKey b 9999 2 (.int .i64 t.2.2)).run Tryd.prog w = .ok () w := run_checkKey Tryd.underlying2 (by simp [IsKey]) b 9998
  show (Instr.checkKey b (9999 + 1) 23 (tv t)).run Tryd.prog w = .ok () w
  rw [Instr.checkKey]
  simp only [Sem.run_bind, run_underlying Tryd.underlying23, Result.andThen_ok, tv]
  rw [← Array.forIn_toList]
  generalize hN : 9999 = N at *
  simp [go_sem, h3, h9, h2]

theorem run_findKey23 (t : Tm) (L : List Tm) (w : World) : (Instr.findKey 23 (tv t) (ents 0 L)).run Tryd.prog w = .ok ((find L t 0).map fun q => (q, .int .i64 ((q : Int) + 1))) w := by
  unfold Instr.findKey
  simp only [Sem.run_bind, run_underlying Tryd.underlying23, Result.andThen_ok]
  cases L with
  | nil => simp [ents, Instr.findNow, find]
  | cons a r =>
    have h := run_asking t w (a :: r) 0 0
    have e : ∀ d : TypeDesc, Instr.sameNow d (tv t) (tv a) = none := fun d => by cases d <;> rfl
    have e2 : ∀ d : TypeDesc, Instr.findNow d (tv t) (ents 0 (a :: r)) 0 = none := fun d => by simp only [ents, Instr.findNow, e]
    simp only [e2]
    rw [h]
    congr 1
    cases find (a :: r) t 0 with
    | none => rfl
    | some q =>
      simp only [Option.map_some]
      rw [show ((0 : Nat) : Int) + (q : Int) - ((0 : Nat) : Int) + 1 = (q : Int) + 1 by omega]

/-- A constant's number in the list; 0: it is not there. -/
def idOf (L : List Tm) (t : Tm) : Nat := match find L t 0 with | some q => q + 1 | none => 0

theorem run_lookup23 (t : Tm) (L : List Tm) (clock m : Nat) (w : World) (hb : w.heap[m]? = some (.map (ents 0 L).toArray clock)) :
    (Instr.lookup 46 (.map (some m)) (tv t) true).run Tryd.prog w = .ok (.tuple #[.int .i64 (idOf L t : Int), .bool (find L t 0).isSome]) w := by
  have hz : (zeroValue 3).run Tryd.prog w = .ok (.int .i64 0) w := by kernel_rfl
  have hf := run_findKey23 t L w
  unfold idOf
  cases h : find L t 0 with
  | none =>
    rw [h] at hf
    simp [Instr.lookup, run_underlying Tryd.underlying46, MapKept.run_getObj_map hb, run_checkKey23, hf, hz, Result.andThen]
  | some q =>
    rw [h] at hf
    simp [Instr.lookup, run_underlying Tryd.underlying46, MapKept.run_getObj_map hb, run_checkKey23, hf, Result.andThen]

theorem run_lookup23_nil (t : Tm) (w : World) :
    (Instr.lookup 46 (.map none) (tv t) true).run Tryd.prog w = .ok (.tuple #[.int .i64 0, .bool false]) w := by
  have hz : (zeroValue 3).run Tryd.prog w = .ok (.int .i64 0) w := by kernel_rfl
  have hf := run_findKey23 t [] w
  simp only [ents, find, Option.map_none] at hf
  simp [Instr.lookup, run_underlying Tryd.underlying46, run_checkKey23, hf, hz, Result.andThen]

theorem run_update23 (t : Tm) (L : List Tm) (m : Nat) (w : World) (hb : w.heap[m]? = some (.map (ents 0 L).toArray L.length)) (hn : find L t 0 = none) :
    (Instr.mapUpdate 46 (.map (some m)) (tv t) (.int .i64 ((L.length : Int) + 1))).run Tryd.prog w = .ok () (ChangeMaps.setBlock w m (.map (ents 0 (L ++ [t])).toArray (L ++ [t]).length)) := by
  have hf := run_findKey23 t L w
  rw [hn] at hf
  have e : (ents 0 (L ++ [t])).toArray = (ents 0 L).toArray.push { key := tv t, val := .int .i64 ((L.length : Int) + 1), born := L.length } := by
    rw [ents_snoc]
    simp
  rw [e]
  simp [Instr.mapUpdate, run_underlying Tryd.underlying46, MapKept.run_getObj_map hb, run_checkKey23, hf, MapKept.run_setObj_map _ hb, Result.andThen, ChangeMaps.setBlock]

end Go.Proofs.YtcmjfgjnemifbaaDoor

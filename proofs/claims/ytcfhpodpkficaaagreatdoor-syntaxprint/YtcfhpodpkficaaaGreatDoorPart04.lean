/- Constants: what may be one, in plain mathematics; the walks of isSmall, isDigit, isWord and of the reference's Name. The walks of May, Less, Eq and of the reference's own; Cut. A term as a value. What a call may turn, laws on worlds alone; a step law for 'append'. -/
import Derived.Test.YtcfhpodpkficaaaGreatDoorPart03
import Derived.Test.YtcfhpodpkficaaaGreatDoorRows
import Derived.WalkKit
import Derived.WalkSpells
import Derived.WalkLawsBesides
import Derived.BigQuiet
import Derived.Maps.AppendAt
import Derived.Deep.RegionLaw
import Derived.Laws.AppendOwnNone
import Derived.Laws.BytesArg
namespace Go.Proofs.YtcfhpodpkficaaaGreatDoor.Vl
open Go.RowKit

/-- A small letter; a digit; what may stand behind a word's first letter. -/
def smallN (n : Nat) : Bool := decide (97 ≤ n) && decide (n ≤ 122)
def digitN (n : Nat) : Bool := decide (48 ≤ n) && decide (n ≤ 57)
def restN (n : Nat) : Bool := smallN n || digitN n || decide (n = 95)
/-- The byte at a place, as a number. -/
def bt (s : ByteArray) (j : Nat) : Nat := (s.data.toList.getD j 0).toNat
theorem bt_lt (s : ByteArray) (j : Nat) : bt s j < 256 := UInt8.toNat_lt _
theorem bt_at (s : ByteArray) (j : Nat) (h : j < s.size) : (s[j]'h).toNat = bt s j := by
  unfold bt
  rw [List.getD, Array.getElem?_toList, Array.getElem?_eq_getElem (show j < s.data.size from h)]
  rfl

def wordS (s : ByteArray) : Bool := decide (1 ≤ s.size) && decide (s.size ≤ 16) && smallN (bt s 0) && (List.range s.size).all fun j => j == 0 || restN (bt s j)

theorem wordS_iff (s : ByteArray) : wordS s = true ↔ 1 ≤ s.size ∧ s.size ≤ 16 ∧ smallN (bt s 0) = true ∧ ∀ j, 1 ≤ j → j < s.size → restN (bt s j) = true := by
  unfold wordS
  simp only [Bool.and_eq_true, decide_eq_true_eq, List.all_eq_true, List.mem_range, Bool.or_eq_true, beq_iff_eq]
  constructor
  · rintro ⟨⟨⟨h1, h2⟩, h3⟩, h4⟩
    exact ⟨h1, h2, h3, fun j hj hl => (h4 j hl).resolve_left (by omega)⟩
  · rintro ⟨h1, h2, h3, h4⟩
    exact ⟨⟨⟨h1, h2⟩, h3⟩, fun j hl => if hj : j = 0 then Or.inl hj else Or.inr (h4 j (by omega) hl)⟩

theorem ret_bool {a b : Bool} (h : a = b) : Ending.returned (.bool a) = Ending.returned (.bool b) := by rw [h]

theorem isSmall_any (n : Nat) (w : World) :
    Calls Tryz.prog 83 #[.int .u8 (n : Int)] w fun e w' => e = .returned (.bool (smallN n)) ∧ w' = w := by
  go_enter Tryz.func83, Tryz.ntmps83
  go_wp2
  all_goals (go_ret; refine ⟨ret_bool ?_, rfl⟩; unfold smallN; rw [Bool.eq_iff_iff]; simp; omega)

theorem isDigit_any (n : Nat) (w : World) :
    Calls Tryz.prog 84 #[.int .u8 (n : Int)] w fun e w' => e = .returned (.bool (digitN n)) ∧ w' = w := by
  go_enter Tryz.func84, Tryz.ntmps84
  go_wp2
  all_goals (go_ret; refine ⟨ret_bool ?_, rfl⟩; unfold digitN; rw [Bool.eq_iff_iff]; simp; omega)

theorem wordS_not {s : ByteArray} (h : ¬ (1 ≤ s.size ∧ s.size ≤ 16 ∧ smallN (bt s 0) = true ∧ ∀ j, 1 ≤ j → j < s.size → restN (bt s j) = true)) : wordS s = false := by
  rw [← wordS_iff] at h
  simpa using h

theorem rest_more {s : ByteArray} {k a : Nat} (h : ∀ j, a ≤ j → j < k → restN (bt s j) = true) (hk : restN (bt s k) = true) : ∀ j, a ≤ j → j < k + 1 → restN (bt s j) = true := by
  intro j hj hl
  by_cases e : j < k
  · exact h j hj e
  · have : j = k := by omega
    rw [this]; exact hk

set_option maxHeartbeats 1000000 in
theorem isWord_any (s : ByteArray) (w : World) :
    Calls Tryz.prog 71 #[.string s] w fun e w' => e = .returned (.bool (wordS s)) ∧ w' = w := by
  by_cases h1 : 1 ≤ s.size
  · by_cases h16 : s.size ≤ 16
    · have b0 := bt_at s 0 h1
      go_enter Tryz.func71, Tryz.ntmps71
      go_wp2_with (first
        | (go_at_call 83; refine (isSmall_any _ _).mono ?_; rintro e w' ⟨rfl, hw⟩; have hw' := hw.symm; subst hw'; clear hw)
        | (go_at_call 84; refine (isDigit_any _ _).mono ?_; rintro e w' ⟨rfl, hw⟩; have hw' := hw.symm; subst hw'; clear hw))
      · have hb : smallN (bt s 0) = false := by
          rename_i hx
          rcases hx with hx | hx
          · omega
          · simpa using hx
        go_ret
        refine ⟨ret_bool (wordS_not ?_).symm, rfl⟩
        rintro ⟨_, _, h3, _⟩
        rw [hb] at h3
        cases h3
      · have hb : Hid (smallN (bt s 0) = true) := by
          rename_i hx _ _
          show _ = _
          simpa using hx.2
        rename_i hx _ _
        clear hx
        go_loopw [3] (fun i wr => ∃ k : Nat, 1 ≤ k ∧ k ≤ s.size ∧ i = .int .i64 k ∧ Hid (∀ j, 1 ≤ j → j < k → restN (bt s j) = true) ∧ wr = w) (fun i _ => s.size - (intOf i).toNat)
        case atStart => exact ⟨1, Nat.le_refl _, h1, rfl, fun j h1 h2 => by omega, rfl⟩
        case round =>
          obtain ⟨k, hk1, hk, rfl, hh, hw⟩ := hrel
          have hw' := hw.symm
          subst hw'
          by_cases hlt : k < s.size
          · have bk := bt_at s k hlt
            go_wp2_with (first
              | (go_at_call 83; refine (isSmall_any _ _).mono ?_; rintro e w' ⟨rfl, hw⟩; have hw' := hw.symm; subst hw'; clear hw)
              | (go_at_call 84; refine (isDigit_any _ _).mono ?_; rintro e w' ⟨rfl, hw⟩; have hw' := hw.symm; subst hw'; clear hw))
            · rename_i hx
              go_roundw
              case rel => exact ⟨k + 1, by omega, by omega, by go_num, rest_more hh.out (by simp [restN, hx]), trivial⟩
              case measure => simp [intOf]; omega
            · rename_i hx
              go_roundw
              case rel => exact ⟨k + 1, by omega, by omega, by go_num, rest_more hh.out (by simp [restN, hx]), trivial⟩
              case measure => simp [intOf]; omega
            · have hx2 : ¬ smallN (bt s k) = true := by assumption
              have hx1 : ¬ digitN (bt s k) = true := by assumption
              rename_i hx
              go_ret
              refine ⟨ret_bool (wordS_not ?_).symm, rfl⟩
              rintro ⟨_, _, _, h4⟩
              have := h4 k hk1 hlt
              have hne : bt s k ≠ 95 := by
                intro e
                rw [e] at hx
                exact absurd hx (by decide)
              simp [restN, hne] at this
              rcases this with h | h
              · exact hx2 h
              · exact hx1 h
            · rename_i hx
              have hne : bt s k = 95 := by
                have : ((bt s k : Nat) : Int) = 95 := by simpa using hx
                omega
              go_roundw
              case rel => exact ⟨k + 1, by omega, by omega, by go_num, rest_more hh.out (by simp [restN, hne]), trivial⟩
              case measure => simp [intOf]; omega
          · have hke : k = s.size := by omega
            subst hke
            go_wp2
            go_ret
            exact ⟨ret_bool ((wordS_iff s).2 ⟨h1, h16, hb.out, hh.out⟩).symm, rfl⟩
    · go_enter Tryz.func71, Tryz.ntmps71
      go_wp2
      go_ret
      exact ⟨ret_bool (wordS_not fun h => h16 h.2.1).symm, rfl⟩
  · go_enter Tryz.func71, Tryz.ntmps71
    go_wp2
    go_ret
    exact ⟨ret_bool (wordS_not fun h => h1 h.1).symm, rfl⟩

theorem ref_not {n k : Nat} (h : ¬ ((¬ (smallN n = true)) ∧ (k = 0 ∨ ¬ (digitN n = true ∨ n = 95)))) : (k = 0 → smallN n = true) ∧ restN n = true := by
  unfold restN
  by_cases h1 : smallN n = true <;> by_cases h2 : digitN n = true <;> by_cases h3 : n = 95 <;> simp_all

end Go.Proofs.YtcfhpodpkficaaaGreatDoor.Vl
namespace Go.Proofs.YtcfhpodpkficaaaGreatDoor.Vl
open Go.RowKit

/-- May a term be a constant? -/
def mayT (k : Int) (s : ByteArray) (n : Int) : Bool :=
  if k = 3 then s.toList.isEmpty && decide (-2147483648 ≤ n) && decide (n ≤ 2147483648)
  else if k = 2 then decide (n = 0) && wordS s else false

theorem below_box (w : World) (o : Obj) : Below w.heap.size w (w.alloc o) := (Below.refl _ _).alloc (Nat.le_refl _) o
theorem below_box2 (w : World) (o o' : Obj) : Below w.heap.size w ((w.alloc o).alloc o') := (below_box w o).alloc (by simp) o'

set_option maxHeartbeats 1000000 in
theorem may_any (k n : Int) (s : ByteArray) (w : World) :
    Calls Tryz.prog 57 #[.agg #[.int .i64 k, .string s, .int .i64 n]] w fun e w' => e = .returned (.bool (mayT k s n)) ∧ Below w.heap.size w w' := by
  by_cases h3 : k = 3
  · subst h3
    go_enter Tryz.func57, Tryz.ntmps57
    go_wp2
    all_goals (go_ret; refine ⟨ret_bool ?_, below_box _ _⟩; simp_all [mayT] <;> omega)
  · have h3' : (k == 3) = false := by simpa using h3
    by_cases h2 : k = 2
    · subst h2
      go_enter Tryz.func57, Tryz.ntmps57
      go_wp2_with (go_at_call 71; refine (isWord_any _ _).mono ?_; rintro e w' ⟨rfl, hw⟩; have hw' := hw.symm; subst hw'; clear hw)
      all_goals (go_ret; refine ⟨ret_bool ?_, below_box _ _⟩; simp_all [mayT])
    · have h2' : (k == 2) = false := by simpa using h2
      go_enter Tryz.func57, Tryz.ntmps57
      go_wp2
      all_goals (go_ret; refine ⟨ret_bool ?_, below_box _ _⟩; simp_all [mayT])

/-- How two constants are ordered; whether they are one. -/
def lessT (k : Int) (s : ByteArray) (x : Int) (k' : Int) (s' : ByteArray) (y : Int) : Bool :=
  if k = 3 then (if k' = 3 then decide (x < y) else true) else if k' = 3 then false else Op.bytesLess s.toList s'.toList
def eqT (k : Int) (s : ByteArray) (x : Int) (k' : Int) (s' : ByteArray) (y : Int) : Bool := decide (k = k') && decide (s.toList = s'.toList) && decide (x = y)

set_option maxHeartbeats 1000000 in
theorem lessRef_any (k k' x y : Int) (s s' : ByteArray) (w : World) (hk : k = 2 ∨ k = 3) (hk' : k' = 2 ∨ k' = 3) :
    Calls Tryz.prog 58 #[.agg #[.int .i64 k, .string s, .int .i64 x], .agg #[.int .i64 k', .string s', .int .i64 y]] w fun e w' => e = .returned (.bool (lessT k s x k' s' y)) ∧ Below w.heap.size w w' := by
  rcases hk with rfl | rfl <;> rcases hk' with rfl | rfl
  all_goals (go_enter Tryz.func58, Tryz.ntmps58)
  all_goals go_wp2
  all_goals go_ret
  all_goals exact ⟨ret_bool (by simp [lessT]), below_box2 _ _ _⟩

set_option maxHeartbeats 1000000 in
theorem eqRef_any (k k' x y : Int) (s s' : ByteArray) (w : World) :
    Calls Tryz.prog 39 #[.agg #[.int .i64 k, .string s, .int .i64 x], .agg #[.int .i64 k', .string s', .int .i64 y]] w fun e w' => e = .returned (.bool (eqT k s x k' s' y)) ∧ Below w.heap.size w w' := by
  go_enter Tryz.func39, Tryz.ntmps39
  go_wp2
  all_goals go_ret
  all_goals exact ⟨ret_bool (by rw [Bool.eq_iff_iff]; simp_all [eqT]), below_box2 _ _ _⟩

/-- A string's first bytes. -/
def cutS (s : ByteArray) (n : Nat) : ByteArray := if n < s.size then s.extract 0 n else s

set_option maxHeartbeats 1000000 in
theorem cutS_any (s : ByteArray) (n : Nat) (w : World) :
    Calls Tryz.prog 8 #[.string s, .int .i64 (n : Int)] w fun e w' => e = .returned (.string (cutS s n)) ∧ w' = w := by
  go_enter Tryz.func8, Tryz.ntmps8
  go_wp2
  all_goals go_ret
  · rename_i h
    rw [cutS, if_pos h]
    exact ⟨rfl, rfl⟩
  · rename_i h
    rw [cutS, if_neg h]
    exact ⟨rfl, rfl⟩

end Go.Proofs.YtcfhpodpkficaaaGreatDoor.Vl
namespace Go.Proofs.YtcfhpodpkficaaaGreatDoor.Vl
open Go.RowKit

theorem run_equal23 (k k' x y : Int) (s s' : ByteArray) (w : World) :
    (Op.equal 53 (.agg #[.int .i64 k, .string s, .int .i64 x]) (.agg #[.int .i64 k', .string s', .int .i64 y])).run Tryz.prog w = .ok (eqT k s x k' s' y) w := by
  unfold Op.equal Op.maxDepth
  by_cases h1 : k = k' <;> by_cases h2 : s.toList = s'.toList <;> by_cases h3 : x = y <;> simp [eqT, h1, h2, h3, go_sem]

abbrev Tm := Int × ByteArray × Int
/-- A term as a value, as cells. -/
def tv (t : Tm) : Value := .agg #[.int .i64 t.1, .string t.2.1, .int .i64 t.2.2]
def eqM (a b : Tm) : Bool := eqT a.1 a.2.1 a.2.2 b.1 b.2.1 b.2.2

end Go.Proofs.YtcfhpodpkficaaaGreatDoor.Vl
namespace Go.Proofs.YtcfhpodpkficaaaGreatDoor.Vl
open Go.RowKit

/-- What a call may have turned: blocks of F alone, and new ones. -/
structure Fr (F : Nat → Prop) (w w' : World) : Prop where
  os : w'.os = w.os
  tape : w'.tape = w.tape
  output : w'.output = w.output
  size : w.heap.size ≤ w'.heap.size
  block : ∀ k, k < w.heap.size → ¬ F k → w'.heap[k]? = w.heap[k]?

theorem Fr.refl (F : Nat → Prop) (w : World) : Fr F w w := ⟨rfl, rfl, rfl, Nat.le_refl _, fun _ _ _ => rfl⟩
theorem Fr.trans {F G : Nat → Prop} {a b c : World} (h : Fr F a b) (k : Fr G b c) (hg : ∀ x, x < a.heap.size → G x → F x) : Fr F a c :=
  ⟨k.os.trans h.os, k.tape.trans h.tape, k.output.trans h.output, Nat.le_trans h.size k.size, fun i hi hF => (k.block i (Nat.lt_of_lt_of_le hi h.size) (fun hG => hF (hg i hi hG))).trans (h.block i hi hF)⟩
theorem Fr.mono {F G : Nat → Prop} {a b : World} (h : Fr F a b) (hg : ∀ x, x < a.heap.size → F x → G x) : Fr G a b :=
  ⟨h.os, h.tape, h.output, h.size, fun i hi hG => h.block i hi (fun hF => hG (hg i hi hF))⟩
theorem Fr.of_below {F : Nat → Prop} {w w' : World} (h : Below w.heap.size w w') : Fr F w w' := ⟨h.os, h.tape, h.output, h.size, fun k hk _ => h.block k hk⟩
theorem Fr.below {F : Nat → Prop} {w w' : World} {B : Nat} (h : Fr F w w') (hF : ∀ k, F k → B ≤ k) (hB : B ≤ w.heap.size) : Below B w w' :=
  ⟨h.os, h.tape, h.output, h.size, fun k hk => h.block k (by omega) (fun hk' => by have := hF k hk'; omega)⟩
theorem Fr.of_grown {F : Nat → Prop} {w w' : World} {row : Option Nat} (h : w.grownBy w' row) (hr : ∀ k, row = some k → F k) : Fr F w w' :=
  ⟨h.os, h.tape, h.output, h.size, fun k hk hF => h.block k hk (fun e => hF (hr k e.symm))⟩
theorem Fr.alloc {F : Nat → Prop} {a w : World} (h : Fr F a w) (o : Obj) : Fr F a (w.alloc o) :=
  h.trans (G := F) (Fr.of_below ((Below.refl _ _).alloc (Nat.le_refl _) o)) (fun _ _ h => h)
theorem Fr.drew {F : Nat → Prop} {a w : World} (h : Fr F a w) : Fr F a w.drew := ⟨h.os, h.tape, h.output, h.size, h.block⟩
theorem Fr.setCell {F : Nat → Prop} {a w : World} (h : Fr F a w) {p : Addr} (hp : p.block < a.heap.size → F p.block) (u : Value) : Fr F a (w.setCell p u) :=
  h.trans (G := fun k => k = p.block) ⟨rfl, rfl, rfl, by simp [World.setCell], fun k _ hk => Below.heap_setCell _ _ _ _ hk⟩ (fun _ hx e => by rw [e] at hx ⊢; exact hp hx)
theorem Fr.cell {F : Nat → Prop} {w w' : World} (h : Fr F w w') {p : Addr} {u : Value} (hc : w.cell? p = some u) (hp : ¬ F p.block) : w'.cell? p = some u :=
  (World.cell?_of_block (h.block p.block (World.block_lt_of_cell? w p hc) hp)).trans hc

/-- What was F's, and what is new. -/
def ext (F : Nat → Prop) (w w' : World) : Nat → Prop := fun k => F k ∨ (w.heap.size ≤ k ∧ k < w'.heap.size)

theorem own_kept {F : Nat → Prop} {w w' : World} {base e size n : Nat} {v : Value} {xs : List Value} (h : w.ownsRow base e size v n xs) (hf : Fr F w w') (hn : ∀ k, v.ownBlock = some k → ¬ F k) : w'.ownsRow base e size v n xs := by
  refine ⟨h.1, ?_⟩
  rcases h.2 with hn' | ⟨g, cap, cur, rfl, hb, hgg, rest⟩
  · exact .inl hn'
  · refine .inr ⟨g, cap, cur, rfl, hb, ?_, rest⟩
    rw [hf.block g (Array.getElem?_eq_some_iff.1 hgg).1 (hn g rfl)]
    exact hgg
theorem own_base {w : World} {base base' e size n : Nat} {v : Value} {xs : List Value} (h : w.ownsRow base e size v n xs) (hb : ∀ k, v.ownBlock = some k → base' ≤ k) : w.ownsRow base' e size v n xs := by
  refine ⟨h.1, ?_⟩
  rcases h.2 with hn' | ⟨g, cap, cur, rfl, _, rest⟩
  · exact .inl hn'
  · exact .inr ⟨g, cap, cur, rfl, hb g rfl, rest⟩
theorem own_zero {w : World} {base e size n : Nat} {v : Value} {xs : List Value} (h : w.ownsRow base e size v n xs) : w.ownsRow 0 e size v n xs := own_base h fun _ _ => Nat.zero_le _
theorem own_ne {w : World} {b b' e e' s s' n n' : Nat} {v v' : Value} {xs xs' : List Value} (h : w.ownsRow b e s v n xs) (h' : w.ownsRow b' e' s' v' n' xs') (he : e ≠ e') {k : Nat} (hk : v.ownBlock = some k) : v'.ownBlock ≠ some k := by
  intro hk'
  rcases h.2 with ⟨rfl, _⟩ | ⟨g, cap, cur, rfl, _, hg, _⟩
  · simp [Value.ownBlock] at hk
  · rcases h'.2 with ⟨rfl, _⟩ | ⟨g', cap', cur', rfl, _, hg', _⟩
    · simp [Value.ownBlock] at hk'
    · simp [Value.ownBlock] at hk hk'
      subst hk hk'
      rw [hg] at hg'
      simp at hg'
      exact he hg'.2
theorem own_shape {w : World} {b e s n : Nat} {v : Value} {xs : List Value} (h : w.ownsRow b e s v n xs) : (v = .slice none 0 0 ∧ n = 0) ∨ ∃ g cap, v = .slice (some ⟨g, 0, none⟩) n cap ∧ n ≤ cap ∧ cap ≤ maxLen ∧ g < w.heap.size := by
  rcases h.2 with h | ⟨g, cap, cur, rfl, _, hg, h1, h2, _⟩
  · exact .inl h
  · exact .inr ⟨g, cap, rfl, h1, h2, (Array.getElem?_eq_some_iff.1 hg).1⟩

theorem heap_set {w : World} {b o : Nat} {cs : Array Value} {T : TypeId} {fr : Nat × Nat} (hb : w.heap[b]? = some (.cells cs T fr)) (v : Value) : (w.setCell ⟨b, o, none⟩ v).heap[b]? = some (.cells (cs.setIfInBounds o v) T fr) := by
  simp [World.setCell, Array.getElem?_modify, hb]
theorem setCell_self {w : World} {b o : Nat} {v : Value} (h : w.cell? ⟨b, o, none⟩ = some v) (k : Nat) : (w.setCell ⟨b, o, none⟩ v).heap[k]? = w.heap[k]? := by
  by_cases hk : k = b
  · subst hk
    cases hb : w.heap[k]? with
    | none => simp [World.cell?, hb] at h
    | some ob =>
      cases ob with
      | cells cs T fr =>
        rw [heap_set hb]
        have hv : cs[o]? = some v := by simpa [World.cell?, hb] using h
        have : cs.setIfInBounds o v = cs := by
          apply Array.ext_getElem?
          intro i
          rw [Array.getElem?_setIfInBounds]
          split
          · subst_vars
            obtain ⟨h1, h2⟩ := Array.getElem?_eq_some_iff.1 hv
            simp [h1, h2]
          · rfl
        rw [this]
      | _ => simp [World.cell?, hb] at h
  · exact Below.heap_setCell _ _ _ _ hk
theorem Fr.of_self {F : Nat → Prop} {w w' : World} {b o : Nat} {v : Value} (h : w.cell? ⟨b, o, none⟩ = some v) (hf : Fr F w w') : Fr F (w.setCell ⟨b, o, none⟩ v) w' :=
  ⟨hf.os, hf.tape, hf.output, by simpa [World.setCell] using hf.size, fun k hk hF => by rw [setCell_self h]; exact hf.block k (by simpa [World.setCell] using hk) hF⟩

theorem own_one {w : World} {b e s n : Nat} {v : Value} {xs : List Value} (h : w.ownsRow b e s v n xs) : v.oneCell' = true := by
  rcases own_shape h with ⟨rfl, _⟩ | ⟨g, cap, rfl, _⟩ <;> rfl
theorem own_slice {w : World} {b e s n : Nat} {v : Value} {xs : List Value} (h : w.ownsRow b e s v n xs) : ∃ ao L cap, v = .slice ao L cap := by
  rcases own_shape h with ⟨rfl, _⟩ | ⟨g, cap, rfl, _⟩ <;> exact ⟨_, _, _, rfl⟩
theorem ext_lt {F : Nat → Prop} {w w' : World} (hF : ∀ k, F k → k < w.heap.size) (hs : w.heap.size ≤ w'.heap.size) : ∀ k, ext F w w' k → k < w'.heap.size := by
  intro k hk
  rcases hk with hk | hk
  · have := hF k hk; omega
  · exact hk.2
theorem Fr.frozen {F : Nat → Prop} {w w' : World} (h : Fr F w w') {p : Addr} {u : Value} (hc : w.cell? p = some u) (hp : ¬ F p.block) : w'.frozen? p = w.frozen? p :=
  World.frozen?_of_block (h.block p.block (World.block_lt_of_cell? w p hc) hp)
theorem setCell_size (w : World) (a : Addr) (u : Value) : (w.setCell a u).heap.size = w.heap.size := by simp [World.setCell]
theorem Fr.one (w : World) (b o : Nat) (u : Value) : Fr (fun k => k = b) w (w.setCell ⟨b, o, none⟩ u) := Fr.setCell (p := ⟨b, o, none⟩) (Fr.refl (fun k => k = b) w) (fun _ => rfl) u
theorem step_append_run {P : Program} {ops : Array Oper} {o : Oper} {a : Act} {w : World} {K : Act → World → Prop} {Q : Exit → Act → World → Prop} {E : Prop}
    (hg : o.guard = none) (d x : Operand) (dT sT : TypeId) (hop : o.op = Op.call { callee := Callee.builtin Builtin.append, args := #[d, x], argTypes := #[dT, sT] })
    (v u : Value) (hd : a.eval d = v) (hx : a.eval x = u) {v' : Value} {w' : World} (hr : (Builtin.append_ #[dT, sT] o.type #[v, u]).run P w = .ok v' w') (hK : K (a.put o.dst v') w') :
    if Region.wanted o (yielded ops a.tmps) = true then Oper.wp P o a w K Q else E := by
  have hw : Region.wanted o (yielded ops a.tmps) = true := by simp [Region.wanted, hg]
  rw [if_pos hw]
  unfold Oper.wp
  simp [execOp, hop, resolve, invoke, builtin, hd, hx, hr, Result.andThen]
  exact hK
end Go.Proofs.YtcfhpodpkficaaaGreatDoor.Vl

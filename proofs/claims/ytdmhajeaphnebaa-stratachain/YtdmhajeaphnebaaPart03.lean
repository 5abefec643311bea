/- The walk of the reference's Scan. Constants: what may be one, in plain mathematics; the walks of isSmall, isDigit, isWord and of the reference's Name. The walks of May, Less, Eq and of the reference's own; Cut. A term as a value. What a call may turn, laws on worlds alone; a step law for 'append'. -/
import Derived.Test.YtdmhajeaphnebaaPart02
import Derived.Test.YtdmhajeaphnebaaPart01
import Derived.WalkKit
import Derived.WalkSpells
import Derived.WalkLawsBesides
import Derived.BigQuiet
import Derived.Maps.AppendAt
import Derived.Deep.RegionLaw
import Derived.Laws.AppendOwnNone
import Derived.Laws.BytesArg
namespace Go.Proofs.Ytdmhajeaphnebaa.Lx
open Go.RowKit

theorem word_any (s : ByteArray) (w : World) (h0 : 0 < s.size) (hs : s.size ≤ 4000) : Calls Try.prog 37 #[.string s] w fun e w' => Wr s w e w' := by
  by_cases h1 : smallN (bt s 0) = true
  · exact word_small s w h0 hs h1
  rw [Bool.not_eq_true] at h1
  by_cases h2 : greatN (bt s 0) = true
  · exact word_great s w h0 hs h1 h2
  rw [Bool.not_eq_true] at h2
  by_cases h3 : digitN (bt s 0) = true
  · exact word_digit s w h0 hs h1 h2 h3
  rw [Bool.not_eq_true] at h3
  by_cases h4 : bt s 0 = 45
  · by_cases hd : 1 < s.size ∧ digitN (bt s 1) = true
    · exact word_minus s w h0 hd.1 hs h1 h2 h3 h4 hd.2
    · exact word_bare s w h0 hs h1 h2 h3 h4 fun hl => by
        cases hx : digitN (bt s 1)
        · rfl
        · exact absurd ⟨hl, hx⟩ hd
  · exact word_sign s w h0 hs h1 h2 h3 h4

/-- What the reference's Scan gives. -/
def Sr (s : ByteArray) (w : World) (r : Ending) (w' : World) : Prop :=
  (∃ v L, scanAt (bs s) 0 = some L ∧ r = .returned (.tuple #[v, .int .i64 0]) ∧ Rw 86 w w' v L) ∨ (scanAt (bs s) 0 = none ∧ ∃ v, r = .returned (.tuple #[v, .int .i64 4]) ∧ Rw 86 w w' v (frontAt (bs s) 0))

theorem blank_not {n : Nat} (h : blankN n = false) : ((n : Int) == 32) = false ∧ ((n : Int) == 9) = false ∧ ((n : Int) == 10) = false ∧ ((n : Int) == 13) = false := by
  simp [blankN] at h
  simp
  omega
theorem blank_is {n : Nat} (h : blankN n = true) : n = 32 ∨ n = 9 ∨ n = 10 ∨ n = 13 := by
  simp [blankN] at h
  omega

theorem kind_four {L : List UInt8} (h : kindL L = 4) : sizeL L ≤ 16 := by
  rw [sizeL, if_neg (by rw [h]; decide), if_neg (by rw [h]; decide), if_neg (by rw [h]; decide)]
  have := signL_two L
  omega

theorem line_eq {s : ByteArray} {k j : Nat} (hkj : k ≤ j) (hj : j ≤ s.size) (h : ∀ x, k ≤ x → x < j → bt s x ≠ 10) (he : j = s.size ∨ bt s j = 10) : lineL ((bs s).drop k) = j - k := by
  refine runP_eq _ _ _ (by rw [List.length_drop, bs_length]; omega) (fun x hx => ?_) ?_
  · have := h (k + x) (by omega) (by omega)
    simpa [bt, List.getD, List.getElem?_drop] using this
  · rcases he with he | he
    · left; rw [List.length_drop, bs_length]; omega
    · right
      have e : k + (j - k) = j := by omega
      simpa [bt, List.getD, List.getElem?_drop, e] using he

/-- What word says of the rest of a text. -/
theorem word_says (S : List UInt8) (a n d : Nat) (h : a < S.length) (hb : blankN (S.getD a 0).toNat = false) (hn : (S.getD a 0).toNat ≠ 37) (e1 : sizeL (S.drop a) = n) (e2 : (if sizeL (S.drop a) = 0 then 0 else kindL (S.drop a)) = d) :
    (n = 0 ∧ scanAt S a = none ∧ frontAt S a = []) ∨ (16 < n ∧ d < 4 ∧ scanAt S a = none ∧ frontAt S a = []) ∨ (1 ≤ n ∧ n ≤ 16 ∧ a + n ≤ S.length ∧ scanAt S a = (scanAt S (a + n)).map (fun r => (d, (S.drop a).take n, a) :: r) ∧ frontAt S a = (d, (S.drop a).take n, a) :: frontAt S (a + n)) := by
  have hl := sizeL_le (S.drop a)
  rw [List.length_drop] at hl
  by_cases h0 : n = 0
  · left
    exact ⟨h0, scanAt_bad S a h hb hn (Or.inl (by rw [e1, h0])), frontAt_bad S a h hb hn (Or.inl (by rw [e1, h0]))⟩
  · right
    rw [e1, if_neg h0] at e2
    by_cases h16 : 16 < n
    · left
      refine ⟨h16, ?_, scanAt_bad S a h hb hn (Or.inr (by rw [e1]; exact h16)), frontAt_bad S a h hb hn (Or.inr (by rw [e1]; exact h16))⟩
      have hk : kindL (S.drop a) ≤ 4 := (kindN_pos _).2
      by_cases h4 : kindL (S.drop a) = 4
      · have := kind_four h4
        omega
      · omega
    · right
      have := scanAt_word S a h hb hn (by rw [e1]; exact h0) (by rw [e1]; omega)
      rw [e1, e2] at this
      have this2 := frontAt_word S a h hb hn (by rw [e1]; exact h0) (by rw [e1]; omega)
      rw [e1, e2] at this2
      exact ⟨by omega, by omega, by omega, this, this2⟩

theorem rscan_long (s : ByteArray) (w : World) (h : 4000 < s.size) :
    Calls Try.prog 25 #[.string s] w fun e w' => e = .returned (.tuple #[.slice none 0 0, .int .i64 8]) ∧ w' = w := by
  go_enter Try.func25, Try.ntmps25
  go_wp2
  go_ret2
  exact ⟨rfl, rfl⟩

set_option maxRecDepth 4000 in
set_option maxHeartbeats 4000000 in
theorem rscan_any (s : ByteArray) (w : World) (hs : s.size ≤ 4000) :
    Calls Try.prog 25 #[.string s] w fun e w' => Sr s w e w' := by
  go_enter Try.func25, Try.ntmps25
  go_wp2_with fail
  go_loopw [4, 5] (fun v i wr => ∃ (k : Nat) (L : List Wd), i = .int .i64 k ∧ k ≤ s.size ∧ Hid (Sp (bs s) k L) ∧ L.length ≤ k ∧ Hid (Rw 86 w wr v L)) (fun _ i _ => s.size - (intOf i).toNat)
  case atStart => exact ⟨0, [], rfl, Nat.zero_le _, Sp.start _, Nat.le_refl _, Rw.nil _ _⟩
  case round =>
    obtain ⟨k, L, rfl, hk, H1, hLk, HR⟩ := hrel
    by_cases hlt : k < s.size
    · have bk := bt_at s k hlt
      have hltI : (k : Int) < (s.size : Int) := by omega
      cases hb : blankN (bt s k)
      · obtain ⟨n1, n2, n3, n4⟩ := blank_not hb
        have HB : Hid _ := hb
        clear hb
        by_cases hp : bt s k = 37
        · have g37 : ((bt s k : Int) == 37) = true := by rw [hp]; rfl
          have HP : Hid _ := hp
          clear hp
          go_wp2_with fail
          go_loopw [5] (fun i wr' => ∃ j : Nat, k ≤ j ∧ j ≤ s.size ∧ i = .int .i64 j ∧ Hid (∀ x, k ≤ x → x < j → bt s x ≠ 10) ∧ wr' = wr) (fun i _ => s.size - (intOf i).toNat)
          case atStart => exact ⟨k, Nat.le_refl _, hk, rfl, fun x h1 h2 => absurd h2 (by omega), rfl⟩
          case round =>
            obtain ⟨j, hkj, hj, rfl, hx, hw⟩ := hrel
            have hw' := hw.symm
            subst hw'
            have dn : (j = s.size ∨ bt s j = 10) → (scanAt (bs s) k = scanAt (bs s) j ∧ frontAt (bs s) k = frontAt (bs s) j) ∧ k < j := fun he => by
              have hn := scanAt_note (bs s) k hlt HP.out
              have hn2 := frontAt_note (bs s) k hlt HP.out
              rw [line_eq hkj hj hx.out he] at hn hn2
              have e : k + (j - k) = j := by omega
              rw [e] at hn hn2
              exact ⟨⟨hn.1, hn2⟩, by omega⟩
            have DN : Hid _ := dn
            clear dn bk
            by_cases hlj : j < s.size
            · have bj := bt_at s j hlj
              have hljI : (j : Int) < (s.size : Int) := by omega
              by_cases h10 : bt s j = 10
              · have g10 : ((bt s j : Int) == 10) = true := by rw [h10]; rfl
                obtain ⟨d1, d2⟩ := DN.out (Or.inr h10)
                have D1 : Hid _ := d1
                clear d1 h10 DN
                go_wp2_with fail
                exact ⟨⟨j, L, rfl, hj, H1.out.same D1.out, by omega, HR⟩, by simp [intOf]; omega⟩
              · have g10 : ((bt s j : Int) == 10) = false := by simp; omega
                have H10 : Hid _ := h10
                clear h10
                go_wp2_with fail
                go_roundw
                case rel => exact ⟨j + 1, by omega, by omega, by go_num, fun x h1 h2 => by
                  by_cases e : x < j
                  · exact hx.out x h1 e
                  · have : x = j := by omega
                    rw [this]; exact H10.out, trivial⟩
                case measure => simp [intOf]; omega
            · have hje : j = s.size := by omega
              subst hje
              obtain ⟨d1, d2⟩ := DN.out (Or.inl rfl)
              have D1 : Hid _ := d1
              clear d1 DN
              go_wp2_with fail
              exact ⟨⟨s.size, L, rfl, Nat.le_refl _, H1.out.same D1.out, by omega, HR⟩, by simp [intOf]; omega⟩
        · have g37 : ((bt s k : Int) == 37) = false := by simp; omega
          have HP : Hid _ := hp
          clear hp
          obtain ⟨n, hn⟩ : ∃ n, Hid (sizeL ((bs s).drop k) = n) := ⟨_, rfl⟩
          obtain ⟨d, hd⟩ : ∃ d, Hid ((if sizeL ((bs s).drop k) = 0 then 0 else kindL ((bs s).drop k)) = d) := ⟨_, rfl⟩
          have HW : Hid _ := word_says (bs s) k n d hlt HB.out HP.out hn.out hd.out
          go_wp2_with fail
          refine (word_any _ _ (by rw [size_from]; omega) (by rw [size_from]; omega)).mono ?_
          rintro e w1 ⟨rfl, hb⟩
          rw [bs_from, hd.out, hn.out]
          have HR1 : Hid (Rw 86 w w1 u4 L) := HR.out.keep hb
          clear hb HR
          rcases HW.out with ⟨h0, hno⟩ | ⟨h16, h4, hno⟩ | ⟨g1, g2, g3, g4⟩
          · subst h0
            have HN : Hid _ := hno
            clear hno HW hn hd
            go_wp2_with fail
            go_ret2
            exact Or.inr ⟨(H1.out.bad HN.out).1, _, rfl, by rw [(H1.out.bad HN.out).2]; exact HR1.out⟩
          · have HN : Hid _ := hno
            clear hno HW hn hd
            have e0 : ((n : Int) == 0) = false := by simp; omega
            have e1 : (d : Int) < 4 := by omega
            have e2 : (16 : Int) < (n : Int) := by omega
            go_wp2_with fail
            go_ret2
            exact Or.inr ⟨(H1.out.bad HN.out).1, _, rfl, by rw [(H1.out.bad HN.out).2]; exact HR1.out⟩
          · have H4 : Hid _ := g4
            clear g4 HW hn hd
            have e0 : ((n : Int) == 0) = false := by simp; omega
            have e2 : ¬ (16 : Int) < (n : Int) := by omega
            have hn3 : k + n ≤ s.size := g3
            obtain ⟨X, hX⟩ : ∃ X, Hid (((bs s).drop k).take n = X) := ⟨_, rfl⟩
            rw [hX.out] at H4
            have HX : Hid (s.extract k (k + n) = tx X) := by rw [extract_tx, Nat.add_sub_cancel_left, hX.out]; rfl
            obtain ⟨g, cap, w3, hap, HR3⟩ := push_any 64 86 Try.underlying64 Try.info86 HR1.out (d, X, k) (by omega)
            clear HR1 g3
            simp only [] at hap
            rw [← HX.out] at hap
            have hgo : Hid (Sp (bs s) (k + n) (L ++ [(d, X, k)])) := H1.out.more H4.out
            clear H1 H4 HX hX HP HB
            by_cases hd4 : (d : Int) < 4
            all_goals go_wp2_with (at_builtin; refine wpList_append_run _ rfl (.tmp 37) (.tmp 47) 64 64 rfl _ _ rfl rfl (hap _) ?_)
            all_goals clear hap
            all_goals (go_roundw
                       case rel => exact ⟨k + n, L ++ [(d, X, k)], by go_num, hn3, hgo, by simp; omega, HR3⟩
                       case measure => simp [intOf]; omega)
      · have HS : Hid (scanAt (bs s) k = scanAt (bs s) (k + 1) ∧ frontAt (bs s) k = frontAt (bs s) (k + 1)) := ⟨scanAt_blank (bs s) k hlt hb, frontAt_blank (bs s) k hlt hb⟩
        have h4 := blank_is hb
        clear hb
        have hcs : (((bt s k : Int) == 32) = true) ∨ ((((bt s k : Int) == 32) = false) ∧ (((bt s k : Int) == 9) = true)) ∨ ((((bt s k : Int) == 32) = false) ∧ (((bt s k : Int) == 9) = false) ∧ (((bt s k : Int) == 10) = true)) ∨ ((((bt s k : Int) == 32) = false) ∧ (((bt s k : Int) == 9) = false) ∧ (((bt s k : Int) == 10) = false) ∧ (((bt s k : Int) == 13) = true)) := by
          rcases h4 with h4 | h4 | h4 | h4 <;> rw [h4] <;> simp
        clear h4
        rcases hcs with m1 | ⟨m1, m2⟩ | ⟨m1, m2, m3⟩ | ⟨m1, m2, m3, m4⟩
        all_goals go_wp2_with fail
        all_goals (go_roundw
                   case rel => exact ⟨k + 1, L, by go_num, by omega, H1.out.same HS.out, by omega, HR⟩
                   case measure => simp [intOf]; omega)
    · have hke : k = s.size := by omega
      subst hke
      go_wp2_with fail
      go_ret2
      exact Or.inl ⟨_, L, H1.out.good (Nat.le_refl _), rfl, HR.out⟩

/-- A string's first bytes. -/
def cutS (s : ByteArray) (n : Nat) : ByteArray := if n < s.size then s.extract 0 n else s
theorem cutS_size (s : ByteArray) (n : Nat) : (cutS s n).size ≤ n := by
  unfold cutS
  split
  · simp; omega
  · omega
set_option maxHeartbeats 1000000 in
theorem cutS_any (s : ByteArray) (n : Nat) (w : World) :
    Calls Try.prog 15 #[.string s, .int .i64 (n : Int)] w fun e w' => e = .returned (.string (cutS s n)) ∧ w' = w := by
  go_enter Try.func15, Try.ntmps15
  go_wp2
  all_goals go_ret
  · rename_i h
    rw [cutS, if_pos h]
    exact ⟨rfl, rfl⟩
  · rename_i h
    rw [cutS, if_neg h]
    exact ⟨rfl, rfl⟩

end Go.Proofs.Ytdmhajeaphnebaa.Lx
namespace Go.Proofs.Ytdmhajeaphnebaa.Vl
open Go.RowKit

/-- A small letter; a digit; what may stand behind a word's first letter. -/
def smallN (n : Nat) : Bool := decide (97 ≤ n) && decide (n ≤ 122)
def digitN (n : Nat) : Bool := decide (48 ≤ n) && decide (n ≤ 57)
def restN (n : Nat) : Bool := smallN n || digitN n || decide (n = 95)
/-- The byte at a place, as a number. -/
def bt (s : ByteArray) (j : Nat) : Nat := (s.data.toList.getD j 0).toNat
theorem bt_lt (s : ByteArray) (j : Nat) : bt s j < 256 := UInt8.toNat_lt _
theorem bt_at (s : ByteArray) (j : Nat) (h : j < s.size) : (s[j]'h).toNat = bt s j := by
  unfold bt
  rw [List.getD, Array.getElem?_toList, Array.getElem?_eq_getElem (show j < s.data.size from h)]
  rfl

def wordS (s : ByteArray) : Bool := decide (1 ≤ s.size) && decide (s.size ≤ 16) && smallN (bt s 0) && (List.range s.size).all fun j => j == 0 || restN (bt s j)

theorem wordS_iff (s : ByteArray) : wordS s = true ↔ 1 ≤ s.size ∧ s.size ≤ 16 ∧ smallN (bt s 0) = true ∧ ∀ j, 1 ≤ j → j < s.size → restN (bt s j) = true := by
  unfold wordS
  simp only [Bool.and_eq_true, decide_eq_true_eq, List.all_eq_true, List.mem_range, Bool.or_eq_true, beq_iff_eq]
  constructor
  · rintro ⟨⟨⟨h1, h2⟩, h3⟩, h4⟩
    exact ⟨h1, h2, h3, fun j hj hl => (h4 j hl).resolve_left (by omega)⟩
  · rintro ⟨h1, h2, h3, h4⟩
    exact ⟨⟨⟨h1, h2⟩, h3⟩, fun j hl => if hj : j = 0 then Or.inl hj else Or.inr (h4 j (by omega) hl)⟩

theorem ret_bool {a b : Bool} (h : a = b) : Ending.returned (.bool a) = Ending.returned (.bool b) := by rw [h]

theorem wordS_not {s : ByteArray} (h : ¬ (1 ≤ s.size ∧ s.size ≤ 16 ∧ smallN (bt s 0) = true ∧ ∀ j, 1 ≤ j → j < s.size → restN (bt s j) = true)) : wordS s = false := by
  rw [← wordS_iff] at h
  simpa using h

theorem rest_more {s : ByteArray} {k a : Nat} (h : ∀ j, a ≤ j → j < k → restN (bt s j) = true) (hk : restN (bt s k) = true) : ∀ j, a ≤ j → j < k + 1 → restN (bt s j) = true := by
  intro j hj hl
  by_cases e : j < k
  · exact h j hj e
  · have : j = k := by omega
    rw [this]; exact hk

theorem ref_not {n k : Nat} (h : ¬ ((¬ (smallN n = true)) ∧ (k = 0 ∨ ¬ (digitN n = true ∨ n = 95)))) : (k = 0 → smallN n = true) ∧ restN n = true := by
  unfold restN
  by_cases h1 : smallN n = true <;> by_cases h2 : digitN n = true <;> by_cases h3 : n = 95 <;> simp_all

end Go.Proofs.Ytdmhajeaphnebaa.Vl
namespace Go.Proofs.Ytdmhajeaphnebaa.Vl
open Go.RowKit

/-- May a term be a constant? -/
def mayT (k : Int) (s : ByteArray) (n : Int) : Bool :=
  if k = 3 then s.toList.isEmpty && decide (-2147483648 ≤ n) && decide (n ≤ 2147483648)
  else if k = 2 then decide (n = 0) && wordS s else false

theorem below_box (w : World) (o : Obj) : Below w.heap.size w (w.alloc o) := (Below.refl _ _).alloc (Nat.le_refl _) o
theorem below_box2 (w : World) (o o' : Obj) : Below w.heap.size w ((w.alloc o).alloc o') := (below_box w o).alloc (by simp) o'

/-- How two constants are ordered; whether they are one. -/
def lessT (k : Int) (s : ByteArray) (x : Int) (k' : Int) (s' : ByteArray) (y : Int) : Bool :=
  if k = 3 then (if k' = 3 then decide (x < y) else true) else if k' = 3 then false else Op.bytesLess s.toList s'.toList
def eqT (k : Int) (s : ByteArray) (x : Int) (k' : Int) (s' : ByteArray) (y : Int) : Bool := decide (k = k') && decide (s.toList = s'.toList) && decide (x = y)

/-- A string's first bytes. -/
def cutS (s : ByteArray) (n : Nat) : ByteArray := if n < s.size then s.extract 0 n else s

set_option maxHeartbeats 1000000 in
theorem cutS_any (s : ByteArray) (n : Nat) (w : World) :
    Calls Try.prog 15 #[.string s, .int .i64 (n : Int)] w fun e w' => e = .returned (.string (cutS s n)) ∧ w' = w := by
  go_enter Try.func15, Try.ntmps15
  go_wp2
  all_goals go_ret
  · rename_i h
    rw [cutS, if_pos h]
    exact ⟨rfl, rfl⟩
  · rename_i h
    rw [cutS, if_neg h]
    exact ⟨rfl, rfl⟩

end Go.Proofs.Ytdmhajeaphnebaa.Vl
namespace Go.Proofs.Ytdmhajeaphnebaa.Vl
open Go.RowKit

theorem run_equal23 (k k' x y : Int) (s s' : ByteArray) (w : World) :
    (Op.equal 88 (.agg #[.int .i64 k, .string s, .int .i64 x]) (.agg #[.int .i64 k', .string s', .int .i64 y])).run Try.prog w = .ok (eqT k s x k' s' y) w := by
  unfold Op.equal Op.maxDepth
  by_cases h1 : k = k' <;> by_cases h2 : s.toList = s'.toList <;> by_cases h3 : x = y <;> simp [eqT, h1, h2, h3, go_sem]

abbrev Tm := Int × ByteArray × Int
/-- A term as a value, as cells. -/
def tv (t : Tm) : Value := .agg #[.int .i64 t.1, .string t.2.1, .int .i64 t.2.2]
def eqM (a b : Tm) : Bool := eqT a.1 a.2.1 a.2.2 b.1 b.2.1 b.2.2

end Go.Proofs.Ytdmhajeaphnebaa.Vl
namespace Go.Proofs.Ytdmhajeaphnebaa.Vl
open Go.RowKit

/-- What a call may have turned: blocks of F alone, and new ones. -/
structure Fr (F : Nat → Prop) (w w' : World) : Prop where
  os : w'.os = w.os
  tape : w'.tape = w.tape
  output : w'.output = w.output
  size : w.heap.size ≤ w'.heap.size
  block : ∀ k, k < w.heap.size → ¬ F k → w'.heap[k]? = w.heap[k]?

theorem Fr.refl (F : Nat → Prop) (w : World) : Fr F w w := ⟨rfl, rfl, rfl, Nat.le_refl _, fun _ _ _ => rfl⟩
theorem Fr.trans {F G : Nat → Prop} {a b c : World} (h : Fr F a b) (k : Fr G b c) (hg : ∀ x, x < a.heap.size → G x → F x) : Fr F a c :=
  ⟨k.os.trans h.os, k.tape.trans h.tape, k.output.trans h.output, Nat.le_trans h.size k.size, fun i hi hF => (k.block i (Nat.lt_of_lt_of_le hi h.size) (fun hG => hF (hg i hi hG))).trans (h.block i hi hF)⟩
theorem Fr.mono {F G : Nat → Prop} {a b : World} (h : Fr F a b) (hg : ∀ x, x < a.heap.size → F x → G x) : Fr G a b :=
  ⟨h.os, h.tape, h.output, h.size, fun i hi hG => h.block i hi (fun hF => hG (hg i hi hF))⟩
theorem Fr.of_below {F : Nat → Prop} {w w' : World} (h : Below w.heap.size w w') : Fr F w w' := ⟨h.os, h.tape, h.output, h.size, fun k hk _ => h.block k hk⟩
theorem Fr.below {F : Nat → Prop} {w w' : World} {B : Nat} (h : Fr F w w') (hF : ∀ k, F k → B ≤ k) (hB : B ≤ w.heap.size) : Below B w w' :=
  ⟨h.os, h.tape, h.output, h.size, fun k hk => h.block k (by omega) (fun hk' => by have := hF k hk'; omega)⟩
theorem Fr.of_grown {F : Nat → Prop} {w w' : World} {row : Option Nat} (h : w.grownBy w' row) (hr : ∀ k, row = some k → F k) : Fr F w w' :=
  ⟨h.os, h.tape, h.output, h.size, fun k hk hF => h.block k hk (fun e => hF (hr k e.symm))⟩
theorem Fr.alloc {F : Nat → Prop} {a w : World} (h : Fr F a w) (o : Obj) : Fr F a (w.alloc o) :=
  h.trans (G := F) (Fr.of_below ((Below.refl _ _).alloc (Nat.le_refl _) o)) (fun _ _ h => h)
theorem Fr.drew {F : Nat → Prop} {a w : World} (h : Fr F a w) : Fr F a w.drew := ⟨h.os, h.tape, h.output, h.size, h.block⟩
theorem Fr.setCell {F : Nat → Prop} {a w : World} (h : Fr F a w) {p : Addr} (hp : p.block < a.heap.size → F p.block) (u : Value) : Fr F a (w.setCell p u) :=
  h.trans (G := fun k => k = p.block) ⟨rfl, rfl, rfl, by simp [World.setCell], fun k _ hk => Below.heap_setCell _ _ _ _ hk⟩ (fun _ hx e => by rw [e] at hx ⊢; exact hp hx)
theorem Fr.cell {F : Nat → Prop} {w w' : World} (h : Fr F w w') {p : Addr} {u : Value} (hc : w.cell? p = some u) (hp : ¬ F p.block) : w'.cell? p = some u :=
  (World.cell?_of_block (h.block p.block (World.block_lt_of_cell? w p hc) hp)).trans hc

/-- What was F's, and what is new. -/
def ext (F : Nat → Prop) (w w' : World) : Nat → Prop := fun k => F k ∨ (w.heap.size ≤ k ∧ k < w'.heap.size)

theorem own_kept {F : Nat → Prop} {w w' : World} {base e size n : Nat} {v : Value} {xs : List Value} (h : w.ownsRow base e size v n xs) (hf : Fr F w w') (hn : ∀ k, v.ownBlock = some k → ¬ F k) : w'.ownsRow base e size v n xs := by
  refine ⟨h.1, ?_⟩
  rcases h.2 with hn' | ⟨g, cap, cur, rfl, hb, hgg, rest⟩
  · exact .inl hn'
  · refine .inr ⟨g, cap, cur, rfl, hb, ?_, rest⟩
    rw [hf.block g (Array.getElem?_eq_some_iff.1 hgg).1 (hn g rfl)]
    exact hgg
theorem own_base {w : World} {base base' e size n : Nat} {v : Value} {xs : List Value} (h : w.ownsRow base e size v n xs) (hb : ∀ k, v.ownBlock = some k → base' ≤ k) : w.ownsRow base' e size v n xs := by
  refine ⟨h.1, ?_⟩
  rcases h.2 with hn' | ⟨g, cap, cur, rfl, _, rest⟩
  · exact .inl hn'
  · exact .inr ⟨g, cap, cur, rfl, hb g rfl, rest⟩
theorem own_zero {w : World} {base e size n : Nat} {v : Value} {xs : List Value} (h : w.ownsRow base e size v n xs) : w.ownsRow 0 e size v n xs := own_base h fun _ _ => Nat.zero_le _
theorem own_ne {w : World} {b b' e e' s s' n n' : Nat} {v v' : Value} {xs xs' : List Value} (h : w.ownsRow b e s v n xs) (h' : w.ownsRow b' e' s' v' n' xs') (he : e ≠ e') {k : Nat} (hk : v.ownBlock = some k) : v'.ownBlock ≠ some k := by
  intro hk'
  rcases h.2 with ⟨rfl, _⟩ | ⟨g, cap, cur, rfl, _, hg, _⟩
  · simp [Value.ownBlock] at hk
  · rcases h'.2 with ⟨rfl, _⟩ | ⟨g', cap', cur', rfl, _, hg', _⟩
    · simp [Value.ownBlock] at hk'
    · simp [Value.ownBlock] at hk hk'
      subst hk hk'
      rw [hg] at hg'
      simp at hg'
      exact he hg'.2
theorem own_shape {w : World} {b e s n : Nat} {v : Value} {xs : List Value} (h : w.ownsRow b e s v n xs) : (v = .slice none 0 0 ∧ n = 0) ∨ ∃ g cap, v = .slice (some ⟨g, 0, none⟩) n cap ∧ n ≤ cap ∧ cap ≤ maxLen ∧ g < w.heap.size := by
  rcases h.2 with h | ⟨g, cap, cur, rfl, _, hg, h1, h2, _⟩
  · exact .inl h
  · exact .inr ⟨g, cap, rfl, h1, h2, (Array.getElem?_eq_some_iff.1 hg).1⟩

theorem heap_set {w : World} {b o : Nat} {cs : Array Value} {T : TypeId} {fr : Nat × Nat} (hb : w.heap[b]? = some (.cells cs T fr)) (v : Value) : (w.setCell ⟨b, o, none⟩ v).heap[b]? = some (.cells (cs.setIfInBounds o v) T fr) := by
  simp [World.setCell, Array.getElem?_modify, hb]
theorem setCell_self {w : World} {b o : Nat} {v : Value} (h : w.cell? ⟨b, o, none⟩ = some v) (k : Nat) : (w.setCell ⟨b, o, none⟩ v).heap[k]? = w.heap[k]? := by
  by_cases hk : k = b
  · subst hk
    cases hb : w.heap[k]? with
    | none => simp [World.cell?, hb] at h
    | some ob =>
      cases ob with
      | cells cs T fr =>
        rw [heap_set hb]
        have hv : cs[o]? = some v := by simpa [World.cell?, hb] using h
        have : cs.setIfInBounds o v = cs := by
          apply Array.ext_getElem?
          intro i
          rw [Array.getElem?_setIfInBounds]
          split
          · subst_vars
            obtain ⟨h1, h2⟩ := Array.getElem?_eq_some_iff.1 hv
            simp [h1, h2]
          · rfl
        rw [this]
      | _ => simp [World.cell?, hb] at h
  · exact Below.heap_setCell _ _ _ _ hk
theorem Fr.of_self {F : Nat → Prop} {w w' : World} {b o : Nat} {v : Value} (h : w.cell? ⟨b, o, none⟩ = some v) (hf : Fr F w w') : Fr F (w.setCell ⟨b, o, none⟩ v) w' :=
  ⟨hf.os, hf.tape, hf.output, by simpa [World.setCell] using hf.size, fun k hk hF => by rw [setCell_self h]; exact hf.block k (by simpa [World.setCell] using hk) hF⟩

theorem own_one {w : World} {b e s n : Nat} {v : Value} {xs : List Value} (h : w.ownsRow b e s v n xs) : v.oneCell' = true := by
  rcases own_shape h with ⟨rfl, _⟩ | ⟨g, cap, rfl, _⟩ <;> rfl
theorem own_slice {w : World} {b e s n : Nat} {v : Value} {xs : List Value} (h : w.ownsRow b e s v n xs) : ∃ ao L cap, v = .slice ao L cap := by
  rcases own_shape h with ⟨rfl, _⟩ | ⟨g, cap, rfl, _⟩ <;> exact ⟨_, _, _, rfl⟩
theorem ext_lt {F : Nat → Prop} {w w' : World} (hF : ∀ k, F k → k < w.heap.size) (hs : w.heap.size ≤ w'.heap.size) : ∀ k, ext F w w' k → k < w'.heap.size := by
  intro k hk
  rcases hk with hk | hk
  · have := hF k hk; omega
  · exact hk.2
theorem Fr.frozen {F : Nat → Prop} {w w' : World} (h : Fr F w w') {p : Addr} {u : Value} (hc : w.cell? p = some u) (hp : ¬ F p.block) : w'.frozen? p = w.frozen? p :=
  World.frozen?_of_block (h.block p.block (World.block_lt_of_cell? w p hc) hp)
theorem setCell_size (w : World) (a : Addr) (u : Value) : (w.setCell a u).heap.size = w.heap.size := by simp [World.setCell]
theorem Fr.one (w : World) (b o : Nat) (u : Value) : Fr (fun k => k = b) w (w.setCell ⟨b, o, none⟩ u) := Fr.setCell (p := ⟨b, o, none⟩) (Fr.refl (fun k => k = b) w) (fun _ => rfl) u
theorem step_append_run {P : Program} {ops : Array Oper} {o : Oper} {a : Act} {w : World} {K : Act → World → Prop} {Q : Exit → Act → World → Prop} {E : Prop}
    (hg : o.guard = none) (d x : Operand) (dT sT : TypeId) (hop : o.op = Op.call { callee := Callee.builtin Builtin.append, args := #[d, x], argTypes := #[dT, sT] })
    (v u : Value) (hd : a.eval d = v) (hx : a.eval x = u) {v' : Value} {w' : World} (hr : (Builtin.append_ #[dT, sT] o.type #[v, u]).run P w = .ok v' w') (hK : K (a.put o.dst v') w') :
    if Region.wanted o (yielded ops a.tmps) = true then Oper.wp P o a w K Q else E := by
  have hw : Region.wanted o (yielded ops a.tmps) = true := by simp [Region.wanted, hg]
  rw [if_pos hw]
  unfold Oper.wp
  simp [execOp, hop, resolve, invoke, builtin, hd, hx, hr, Result.andThen]
  exact hK
end Go.Proofs.Ytdmhajeaphnebaa.Vl

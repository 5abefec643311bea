/- The law of any text, a program or none: its walk. The law of many rules, in plain mathematics: its text, its words, what is read of them. What is read of words does not hang on their places. Words with blanks and notes between, in plain mathematics: they are the same words. -/
import Derived.Test.YtcfhpodpkficaaaGreatDoorPart14
import Derived.Test.YtcfhpodpkficaaaGreatDoorPart10
import Derived.Test.YtcfhpodpkficaaaGreatDoorPart06
import Derived.Test.YtcfhpodpkficaaaGreatDoorPart09
namespace Go.Proofs.YtcfhpodpkficaaaGreatDoor.Rp
open Go.RowKit
open Lx (Wd tx bs scanAt)
open Vl (Tm Fr)
open Sy

theorem eqRules_nil (w : World) : Calls Tryz.prog 11 #[.slice none 0 0, .slice none 0 0] w fun e w' => e = .returned (.bool true) ∧ Below w.heap.size w w' :=
  eqRules_same (ls := []) ⟨[], rfl, ⟨by simp [cellsRz], .inl ⟨rfl, rfl⟩⟩, by simp⟩ ⟨[], rfl, ⟨by simp [cellsRz], .inl ⟨rfl, rfl⟩⟩, by simp⟩

set_option maxRecDepth 10000 in
set_option maxHeartbeats 4000000 in
theorem program_law (s : ByteArray) (w : World) (h : Tabs w) :
    Calls Tryz.prog 3 #[.string s] w fun e w' => e = .returned (.bool true) ∧ Below w.heap.size w w' := by
  have HBg := hide (begun_any w h)
  have H := hide h
  have hcs := Lx.cutS_size s 1500
  have HC := hide (Lx.cutS_any s 1500)
  clear h
  go_enter Tryz.func3, Tryz.ntmps3
  go_wp2_with fail
  refine Calls.mono HBg.out ?_
  rintro e w1 ⟨rfl, hb1⟩
  have HB1 := hide hb1
  clear HBg hb1
  go_wp2_with fail
  refine Calls.mono (HC.out w1) ?_
  rintro e w2 ⟨rfl, hw2⟩
  have hw2' := hw2.symm
  subst hw2'
  clear hw2
  generalize Lx.cutS s 1500 = t at *
  have HA := hide (program_any t w1 (H.out.below HB1.out).lex (H.out.below HB1.out).syn (by omega))
  obtain ⟨R, hR⟩ : ∃ R, Hid (progL 30 (wordsL (bs t)) = R) := ⟨_, rfl⟩
  have HD : Hid (∀ W, Calls Tryz.prog 10 #[.string t] W fun e w' => Pg (progL 30 (wordsL (bs t))) W e w') := fun W => rprogram_any t W (by omega)
  rw [hR.out] at HA HD
  clear hR HC
  go_wp2_with fail
  refine Calls.mono HA.out ?_
  rintro e w3 ⟨hz, hb3⟩
  have HB3 := hide (HB1.out.trans (hb3.mono HB1.out.size))
  have HDD := hide (HD.out w3)
  cases R with
  | error c =>
    obtain rfl := hz
    have HE := hide eqRules_nil
    clear HA hb3
    cases c
    all_goals simp only [Bool.false_eq_true, if_false, if_true] at HDD ⊢
    all_goals go_wp2_with fail
    all_goals refine Calls.mono HDD.out ?_
    all_goals rintro e w4 ⟨he4, hb4⟩
    all_goals simp only [Bool.false_eq_true, if_false, if_true] at he4
    all_goals subst he4
    all_goals have HB4 := hide (HB3.out.trans (hb4.mono HB3.out.size))
    all_goals clear hb4
    all_goals go_wp2_with fail
    all_goals refine Calls.mono (HE.out w4) ?_
    all_goals rintro e w5 ⟨rfl, hb5⟩
    all_goals have HB5 := hide (HB4.out.trans (hb5.mono HB4.out.size))
    all_goals go_wp2_with fail
    all_goals go_ret
    all_goals exact ⟨rfl, HB5.out⟩
  | ok l =>
    obtain ⟨y, rfl, hy⟩ := hz
    obtain ⟨ao, cap, rfl⟩ := isRs_shape hy
    have HY := hide hy
    clear hy HA hb3
    go_wp2_with fail
    refine Calls.mono HDD.out ?_
    rintro e w4 ⟨⟨y', rfl, hy'⟩, hb4⟩
    obtain ⟨ao', cap', rfl⟩ := isRs_shape hy'
    have HB4 := hide (HB3.out.trans (hb4.mono HB3.out.size))
    have HE := hide (eqRules_same (isRs_below HY.out hb4) hy')
    clear hy' hb4
    go_wp2_with fail
    refine Calls.mono HE.out ?_
    rintro e w5 ⟨rfl, hb5⟩
    have HB5 := hide (HB4.out.trans (hb5.mono HB4.out.size))
    go_wp2_with fail
    go_ret
    exact ⟨rfl, HB5.out⟩
end Go.Proofs.YtcfhpodpkficaaaGreatDoor.Rp
namespace Go.Proofs.YtcfhpodpkficaaaGreatDoor.Sy
open Lx (Wd tx scanL scanAt kindN kindL sizeL nameN varN smallN digitN runP blankN signL)
open Vl (Tm)

/-- A word without its place. -/
def z (x : Wd) : Wd := (x.1, x.2.1, 0)
/-- The words of a text, without their places. -/
def K (S : List UInt8) : Option (List Wd) := (scanL S 0).map (List.map z)
theorem K_at (n : Nat) : ∀ (S : List UInt8) (a b : Nat), S.length ≤ n → (scanL S a).map (List.map z) = (scanL S b).map (List.map z) := by
  induction n with
  | zero =>
    intro S a b hl
    obtain rfl : S = [] := by cases S; rfl; simp at hl
    rw [Lx.scanL_nil, Lx.scanL_nil]
  | succ n ih =>
    intro S a b hl
    match S with
    | [] => rw [Lx.scanL_nil, Lx.scanL_nil]
    | c :: t =>
      simp only [List.length_cons] at hl
      rw [Lx.scanL_cons, Lx.scanL_cons]
      by_cases hb : blankN c.toNat = true
      · rw [if_pos hb, if_pos hb]
        exact ih t _ _ (by omega)
      · rw [if_neg hb, if_neg hb]
        by_cases hn : c.toNat = 37
        · rw [if_pos hn, if_pos hn]
          exact ih _ _ _ (by rw [List.length_drop]; omega)
        · rw [if_neg hn, if_neg hn]
          by_cases hs : sizeL (c :: t) = 0 ∨ 16 < sizeL (c :: t)
          · rw [if_pos hs, if_pos hs]
          · rw [if_neg hs, if_neg hs]
            have h := ih (t.drop (sizeL (c :: t) - 1)) (a + sizeL (c :: t)) (b + sizeL (c :: t)) (by rw [List.length_drop]; omega)
            revert h
            cases scanL (t.drop (sizeL (c :: t) - 1)) (a + sizeL (c :: t)) <;> cases scanL (t.drop (sizeL (c :: t) - 1)) (b + sizeL (c :: t)) <;> intro h
            · rfl
            · cases h
            · cases h
            · have h' := Option.some.inj h
              simp only [Option.map_some, List.map_cons, Option.some.injEq]
              rw [h']
              rfl
theorem K_nil : K [] = some [] := by rw [K, Lx.scanL_nil]; rfl
theorem K_blank (c : UInt8) (t : List UInt8) (h : blankN c.toNat = true) : K (c :: t) = K t := by
  rw [K, Lx.scanL_cons, if_pos h]
  exact K_at _ t _ _ (Nat.le_refl _)
theorem K_word (c : UInt8) (t : List UInt8) (n k : Nat) (x : List UInt8) (h1 : blankN c.toNat = false) (h2 : ¬ c.toNat = 37) (h3 : sizeL (c :: t) = n) (h4 : ¬ (n = 0 ∨ 16 < n)) (h6 : kindL (c :: t) = k) (h7 : (c :: t).take n = x) : K (c :: t) = (K (t.drop (n - 1))).map (fun r => (k, x, 0) :: r) := by
  have e := K_at _ (t.drop (n - 1)) (0 + n) 0 (Nat.le_refl _)
  rw [K, Lx.scanL_cons, if_neg (by rw [h1]; decide), if_neg h2, h3, if_neg h4, h6, h7, K, ← e]
  cases scanL (t.drop (n - 1)) (0 + n) <;> rfl
/-- A name of one letter. -/
theorem K_name (c : UInt8) (t : List UInt8) (h : smallN c.toNat = true) (ht : t = [] ∨ nameN (t.getD 0 0).toNat = false) : K (c :: t) = (K t).map (fun r => (1, [c], 0) :: r) := by
  have hr : runP nameN t = 0 := by
    rcases ht with rfl | ht
    · rfl
    · cases t with
      | nil => rfl
      | cons d r =>
        have : nameN d.toNat = false := by simpa using ht
        simp [runP, this]
  have hk : kindL (c :: t) = 1 := by simp [kindL, kindN, h]
  have hs : sizeL (c :: t) = 1 := by
    have hn : nameN c.toNat = true := by simp [nameN, h]
    simp [sizeL, hk, runP, hn, hr]
  have hb : blankN c.toNat = false := by
    have := h
    simp [smallN] at this
    simp [blankN]
    omega
  have h37 : ¬ c.toNat = 37 := by
    have := h
    simp [smallN] at this
    omega
  exact K_word c t 1 1 [c] hb h37 hs (by omega) hk rfl
theorem K_40 (t : List UInt8) : K (40 :: t) = (K t).map (fun r => (4, [40], 0) :: r) := K_word 40 t 1 4 [40] (by decide) (by decide) rfl (by omega) rfl rfl
theorem K_41 (t : List UInt8) : K (41 :: t) = (K t).map (fun r => (4, [41], 0) :: r) := K_word 41 t 1 4 [41] (by decide) (by decide) rfl (by omega) rfl rfl
theorem K_44 (t : List UInt8) : K (44 :: t) = (K t).map (fun r => (4, [44], 0) :: r) := K_word 44 t 1 4 [44] (by decide) (by decide) rfl (by omega) rfl rfl
theorem K_46 (t : List UInt8) : K (46 :: t) = (K t).map (fun r => (4, [46], 0) :: r) := K_word 46 t 1 4 [46] (by decide) (by decide) rfl (by omega) rfl rfl
theorem K_if (t : List UInt8) : K (58 :: 45 :: t) = (K t).map (fun r => (4, [58, 45], 0) :: r) := K_word 58 (45 :: t) 2 4 [58, 45] (by decide) (by decide) rfl (by omega) rfl rfl

end Go.Proofs.YtcfhpodpkficaaaGreatDoor.Sy
namespace Go.Proofs.YtcfhpodpkficaaaGreatDoor.Sy
open Lx (Wd tx scanL scanAt)
open Vl (Tm)

def mapZ {α : Type} : Re α → Re α
  | .error e => .error e
  | .ok (x, r) => .ok (x, r.map z)
theorem next_z (ws : List Wd) : nextW (ws.map z) = z (nextW ws) := by cases ws <;> rfl
theorem take_z (s : List UInt8) (ws : List Wd) : takeB s (ws.map z) = takeB s ws := by unfold takeB; rw [next_z]; rfl
theorem tail_z (ws : List Wd) : (ws.map z).tail = ws.tail.map z := by cases ws <;> rfl
theorem one_z (f : Wd → Option Tm) (hf : ∀ x, f (z x) = f x) (ws : List Wd) : oneL f (ws.map z) = mapZ (oneL f ws) := by
  unfold oneL
  rw [next_z, hf, tail_z]
  cases f (nextW ws) <;> rfl
theorem const_z (x : Wd) : constW (z x) = constW x := rfl
theorem term_z (x : Wd) : termW (z x) = termW x := rfl
theorem list_z {α : Type} (item : List Wd → Re α) (hi : ∀ ws, item (ws.map z) = mapZ (item ws)) (n : Nat) : ∀ ws, listL item n (ws.map z) = mapZ (listL item n ws) := by
  induction n with
  | zero =>
    intro ws
    have h := hi ws
    cases hw : item ws with
    | error e => rw [hw] at h; rw [listL_err hw, listL_err h]; rfl
    | ok p => obtain ⟨x, t⟩ := p; rw [hw] at h; rw [listL_zero hw, listL_zero h]; rfl
  | succ n ih =>
    intro ws
    have h := hi ws
    cases hw : item ws with
    | error e => rw [hw] at h; rw [listL_err hw, listL_err h]; rfl
    | ok p =>
      obtain ⟨x, t⟩ := p
      rw [hw] at h
      cases ht : takeB [44] t with
      | false =>
        rw [listL_last hw ht, listL_last h (by rw [take_z]; exact ht)]
        rfl
      | true =>
        have e : takeR [44] (t.map z) = (takeR [44] t).map z := by rw [takeR, takeR, if_pos ht, if_pos (by rw [take_z]; exact ht), tail_z]
        rw [listL_more hw ht, listL_more h (by rw [take_z]; exact ht), e, ih]
        cases listL item n (takeR [44] t) <;> rfl
theorem atom_z (f : Wd → Option Tm) (hf : ∀ x, f (z x) = f x) (ws : List Wd) : atomL f (ws.map z) = mapZ (atomL f ws) := by
  unfold atomL
  rw [next_z, tail_z, take_z, tail_z, list_z (oneL f) (one_z f hf)]
  show (if (nextW ws).1 = 1 then _ else _) = _
  by_cases h1 : (nextW ws).1 = 1
  · rw [if_pos h1, if_pos h1]
    cases ht : takeB [40] ws.tail with
    | false => rfl
    | true =>
      simp only [if_true]
      cases listL (oneL f) 4 ws.tail.tail with
      | error e => rfl
      | ok p =>
        obtain ⟨l, r⟩ := p
        simp only [mapZ]
        rw [take_z]
        cases takeB [41] r with
        | false => rfl
        | true =>
          simp only [if_true]
          rw [tail_z]
          rfl
  · rw [if_neg h1, if_neg h1]
    rfl
theorem cmp_z (ws : List Wd) : cmpL (ws.map z) = mapZ (cmpL ws) := by
  unfold cmpL termL
  rw [one_z termW term_z]
  cases oneL termW ws with
  | error e => rfl
  | ok p =>
    obtain ⟨a, t⟩ := p
    simp only [mapZ]
    rw [next_z, tail_z, one_z termW term_z]
    show (if kindOf (nextW t).2.1 = 0 then _ else _) = _
    by_cases hk : kindOf (nextW t).2.1 = 0
    · rw [if_pos hk, if_pos hk]
    · rw [if_neg hk, if_neg hk]
      cases oneL termW t.tail with
      | error e => rfl
      | ok q => rfl
theorem lit_z (ws : List Wd) : litL (ws.map z) = mapZ (litL ws) := by
  unfold litL
  rw [take_z, next_z, tail_z, next_z, atom_z termW term_z, atom_z termW term_z, cmp_z]
  cases takeB [33] ws with
  | true =>
    simp only [if_true]
    cases atomL termW ws.tail <;> rfl
  | false =>
    simp only [Bool.false_eq_true, if_false]
    show (if (nextW ws).1 = 1 ∧ kindOf (nextW ws.tail).2.1 = 0 then _ else _) = _
    by_cases hk : (nextW ws).1 = 1 ∧ kindOf (nextW ws.tail).2.1 = 0
    · rw [if_pos hk, if_pos hk]
    · rw [if_neg hk, if_neg hk]
theorem end_z (h : Lit) (b : List Lit) (t : List Wd) : endR h b (t.map z) = mapZ (endR h b t) := by
  unfold endR
  rw [take_z]
  cases ht : takeB [46] t with
  | false => rfl
  | true =>
    simp only [if_true]
    rw [takeR, takeR, if_pos ht, if_pos (by rw [take_z]; exact ht), tail_z]
    rfl
theorem clause_z (ws : List Wd) : clauseL (ws.map z) = mapZ (clauseL ws) := by
  rw [clauseL_eq, clauseL_eq, atom_z termW term_z]
  cases atomL termW ws with
  | error e => rfl
  | ok p =>
    obtain ⟨h, t⟩ := p
    simp only [mapZ]
    rw [take_z]
    have e : takeR [58, 45] (t.map z) = (takeR [58, 45] t).map z := by
      rw [takeR, takeR, take_z]
      cases takeB [58, 45] t with
      | false => rfl
      | true => simp only [if_true]; exact tail_z t
    rw [e, list_z litL lit_z, end_z]
    cases takeB [58, 45] t with
    | false => rfl
    | true =>
      simp only [if_true]
      cases listL litL 6 (takeR [58, 45] t) with
      | error e => rfl
      | ok q =>
        obtain ⟨b, r⟩ := q
        exact end_z h b r
theorem prog_z (n : Nat) : ∀ ws, progL n (ws.map z) = progL n ws := by
  induction n with
  | zero =>
    intro ws
    by_cases hw : ws = []
    · rw [hw]; rfl
    · have hw' : ws.map z ≠ [] := by simpa using hw
      have h := clause_z ws
      cases hc : clauseL ws with
      | error e => rw [hc] at h; rw [progL_err hw hc, progL_err hw' h]
      | ok p => obtain ⟨x, t⟩ := p; rw [hc] at h; rw [progL_zero hw hc, progL_zero hw' h]
  | succ n ih =>
    intro ws
    by_cases hw : ws = []
    · rw [hw]; rfl
    · have hw' : ws.map z ≠ [] := by simpa using hw
      have h := clause_z ws
      cases hc : clauseL ws with
      | error e => rw [hc] at h; rw [progL_err hw hc, progL_err hw' h]
      | ok p =>
        obtain ⟨x, t⟩ := p
        rw [hc] at h
        rw [progL_more hw hc, progL_more hw' h, ih]
/-- A text's words, as far as they are read. -/
theorem prog_K {S : List UInt8} {ws : List Wd} (h : K S = some ws) : ∃ L, scanAt S 0 = some L ∧ ∀ n, progL n (wordsL S) = progL n ws := by
  unfold K at h
  cases hs : scanL S 0 with
  | none => rw [hs] at h; cases h
  | some L =>
    rw [hs] at h
    have h' : L.map z = ws := Option.some.inj h
    have hL : scanAt S 0 = some L := hs
    refine ⟨L, hL, fun n => ?_⟩
    rw [wordsL, hL]
    simp only []
    rw [← h', prog_z]

end Go.Proofs.YtcfhpodpkficaaaGreatDoor.Sy
namespace Go.Proofs.YtcfhpodpkficaaaGreatDoor.Sy
open Lx (Wd tx scanL scanAt kindN kindL sizeL nameN varN smallN digitN runP blankN signL lineL word_apart)
open Vl (Tm)

def sepB (b : Bool) : List UInt8 := if b = true then [32, 37, 32, 110, 111, 116, 101, 46, 10] else [32, 9]
/-- The words' texts, behind each a blank and a tab, or a note. -/
def txB : List Wd → List Bool → List UInt8
  | x :: r, b :: s => x.2.1 ++ sepB b ++ txB r s
  | _, _ => []
theorem txB_snoc (m : List Wd) : ∀ (s : List Bool) (x : Wd) (b : Bool), s.length = m.length → txB (m ++ [x]) (s ++ [b]) = txB m s ++ x.2.1 ++ sepB b := by
  induction m with
  | nil =>
    intro s x b h
    obtain rfl : s = [] := by cases s; rfl; simp at h
    simp [txB]
  | cons y r ih =>
    intro s x b h
    match s, h with
    | c :: s, h =>
      simp only [List.cons_append, txB]
      rw [ih s x b (by simpa using h)]
      simp [List.append_assoc]
theorem K_sep (b : Bool) (R : List UInt8) : K (sepB b ++ R) = K R := by
  cases b with
  | false =>
    show K (32 :: 9 :: R) = _
    rw [K_blank 32 _ (by decide), K_blank 9 _ (by decide)]
  | true =>
    show K (32 :: 37 :: 32 :: 110 :: 111 :: 116 :: 101 :: 46 :: 10 :: R) = _
    rw [K_blank 32 _ (by decide)]
    have e : K (37 :: 32 :: 110 :: 111 :: 116 :: 101 :: 46 :: 10 :: R) = K (10 :: R) := by
      rw [K, Lx.scanL_cons, if_neg (by decide), if_pos (by decide)]
      have hl : lineL (32 :: 110 :: 111 :: 116 :: 101 :: 46 :: 10 :: R) = 6 := by simp [lineL, runP]
      rw [hl]
      exact K_at _ (10 :: R) _ _ (Nat.le_refl _)
    rw [e, K_blank 10 _ (by decide)]
theorem sep_32 (b : Bool) (R : List UInt8) : ∃ Q, sepB b ++ R = 32 :: Q := by cases b <;> exact ⟨_, rfl⟩
theorem sep_len (b : Bool) : (sepB b).length ≤ 9 := by cases b <;> decide

theorem scan_B (n : Nat) : ∀ (L : List UInt8) (a : Nat) (m : List Wd), L.length ≤ n → scanL L a = some m → m.length ≤ L.length ∧ ∀ s : List Bool, s.length = m.length → K (txB m s) = some (m.map z) ∧ (txB m s).length ≤ 10 * L.length := by
  induction n with
  | zero =>
    intro L a m hl h
    obtain rfl : L = [] := by cases L; rfl; simp at hl
    rw [Lx.scanL_nil] at h
    cases h
    exact ⟨Nat.le_refl _, fun s hs => ⟨by simp [txB, K_nil], by simp [txB]⟩⟩
  | succ n ih =>
    intro L a m hl h
    match L with
    | [] =>
      rw [Lx.scanL_nil] at h
      cases h
      exact ⟨Nat.le_refl _, fun s hs => ⟨by simp [txB, K_nil], by simp [txB]⟩⟩
    | c :: t =>
      simp only [List.length_cons] at hl
      rw [Lx.scanL_cons] at h
      by_cases hb : blankN c.toNat = true
      · rw [if_pos hb] at h
        obtain ⟨h1, h2⟩ := ih t _ m (by omega) h
        exact ⟨by simp only [List.length_cons]; omega, fun s hs => ⟨(h2 s hs).1, by have := (h2 s hs).2; simp only [List.length_cons]; omega⟩⟩
      · rw [if_neg hb] at h
        by_cases hn : c.toNat = 37
        · rw [if_pos hn] at h
          obtain ⟨h1, h2⟩ := ih _ _ m (by rw [List.length_drop]; omega) h
          rw [List.length_drop] at h1 h2
          exact ⟨by simp only [List.length_cons]; omega, fun s hs => ⟨(h2 s hs).1, by have := (h2 s hs).2; simp only [List.length_cons]; omega⟩⟩
        · rw [if_neg hn] at h
          by_cases hs : sizeL (c :: t) = 0 ∨ 16 < sizeL (c :: t)
          · rw [if_pos hs] at h
            cases h
          · rw [if_neg hs] at h
            have hsl := Lx.sizeL_le (c :: t)
            simp only [List.length_cons] at hsl
            cases hr : scanL (t.drop (sizeL (c :: t) - 1)) (a + sizeL (c :: t)) with
            | none => rw [hr] at h; cases h
            | some r =>
              rw [hr] at h
              simp only [Option.map_some, Option.some.injEq] at h
              obtain ⟨h1, h2⟩ := ih _ _ r (by rw [List.length_drop]; omega) hr
              rw [List.length_drop] at h1 h2
              subst h
              refine ⟨by simp only [List.length_cons]; omega, fun s hsl2 => ?_⟩
              match s, hsl2 with
              | b :: s, hsl2 =>
                obtain ⟨h3, h4⟩ := h2 s (by simpa using hsl2)
                obtain ⟨m0, hm0⟩ : ∃ m0, sizeL (c :: t) = m0 + 1 := ⟨sizeL (c :: t) - 1, by omega⟩
                obtain ⟨Q, hQ⟩ := sep_32 b (txB r s)
                obtain ⟨w1, w2⟩ := word_apart (c :: t) Q (by omega)
                have e1 : txB ((kindL (c :: t), (c :: t).take (sizeL (c :: t)), a) :: r) (b :: s) = (c :: t).take (sizeL (c :: t)) ++ 32 :: Q := by
                  simp only [txB]
                  rw [List.append_assoc, hQ]
                refine ⟨?_, ?_⟩
                · rw [e1]
                  have e2 : (c :: t).take (sizeL (c :: t)) ++ 32 :: Q = c :: (t.take m0 ++ 32 :: Q) := by rw [hm0]; rfl
                  rw [e2] at w1 w2 ⊢
                  have hlt : (t.take m0).length = m0 := by rw [List.length_take]; omega
                  have e3 : (c :: (t.take m0 ++ 32 :: Q)).take (sizeL (c :: t)) = (c :: t).take (sizeL (c :: t)) := by
                    rw [hm0, List.take_succ_cons, List.take_succ_cons, List.take_append_of_le_length (by omega), List.take_take, Nat.min_self]
                  have e4 : (t.take m0 ++ 32 :: Q).drop (sizeL (c :: t) - 1) = 32 :: Q := by
                    rw [hm0, Nat.add_sub_cancel, List.drop_append_of_le_length (by omega), List.drop_of_length_le (by omega), List.nil_append]
                  rw [K_word c (t.take m0 ++ 32 :: Q) (sizeL (c :: t)) (kindL (c :: t)) ((c :: t).take (sizeL (c :: t))) (by simpa using hb) hn w1 hs w2 e3, e4, ← hQ, K_sep, h3]
                  rfl
                · have hl9 := sep_len b
                  simp only [txB, List.length_append, List.length_take, List.length_cons]
                  omega

theorem prog_B {S : List UInt8} {m : List Wd} (h : scanAt S 0 = some m) (s : List Bool) (hs : s.length = m.length) : progL 30 (wordsL (txB m s)) = progL 30 (wordsL S) ∧ (txB m s).length ≤ 10 * S.length := by
  obtain ⟨_, h2⟩ := scan_B _ S 0 m (Nat.le_refl _) h
  obtain ⟨h3, h4⟩ := h2 s hs
  obtain ⟨L, _, h5⟩ := prog_K h3
  refine ⟨?_, h4⟩
  rw [h5, prog_z, wordsL, h]
end Go.Proofs.YtcfhpodpkficaaaGreatDoor.Sy

/- The walk of the reference's Scan. The law of Scan: any text is cut into words, or refused. The law of long texts: 4,000 bytes may be, a longer text not; a word of sixteen, a longer one not. -/
import Derived.Test.YtpbfimjfplemhaaDoorPart03
import Derived.Test.YtpbfimjfplemhaaDoorPart02
import Derived.Laws.OwnMore
import Derived.Laws.IdiomStrings
namespace Go.Proofs.YtpbfimjfplemhaaDoor
open Go.RowKit

theorem word_any (s : ByteArray) (w : World) (h0 : 0 < s.size) (hs : s.size ≤ 4000) : Calls Tryd.prog 13 #[.string s] w fun e w' => Wr s w e w' := by
  by_cases h1 : smallN (bt s 0) = true
  · exact word_small s w h0 hs h1
  rw [Bool.not_eq_true] at h1
  by_cases h2 : greatN (bt s 0) = true
  · exact word_great s w h0 hs h1 h2
  rw [Bool.not_eq_true] at h2
  by_cases h3 : digitN (bt s 0) = true
  · exact word_digit s w h0 hs h1 h2 h3
  rw [Bool.not_eq_true] at h3
  by_cases h4 : bt s 0 = 45
  · by_cases hd : 1 < s.size ∧ digitN (bt s 1) = true
    · exact word_minus s w h0 hd.1 hs h1 h2 h3 h4 hd.2
    · exact word_bare s w h0 hs h1 h2 h3 h4 fun hl => by
        cases hx : digitN (bt s 1)
        · rfl
        · exact absurd ⟨hl, hx⟩ hd
  · exact word_sign s w h0 hs h1 h2 h3 h4

/-- What the reference's Scan gives. -/
def Sr (s : ByteArray) (w : World) (r : Ending) (w' : World) : Prop :=
  (∃ v L, scanAt (bs s) 0 = some L ∧ r = .returned (.tuple #[v, .int .i64 0]) ∧ Rw 33 w w' v L) ∨ (scanAt (bs s) 0 = none ∧ ∃ v, r = .returned (.tuple #[v, .int .i64 4]) ∧ Below w.heap.size w w')

theorem blank_not {n : Nat} (h : blankN n = false) : ((n : Int) == 32) = false ∧ ((n : Int) == 9) = false ∧ ((n : Int) == 10) = false ∧ ((n : Int) == 13) = false := by
  simp [blankN] at h
  simp
  omega
theorem blank_is {n : Nat} (h : blankN n = true) : n = 32 ∨ n = 9 ∨ n = 10 ∨ n = 13 := by
  simp [blankN] at h
  omega

theorem kind_four {L : List UInt8} (h : kindL L = 4) : sizeL L ≤ 16 := by
  rw [sizeL, if_neg (by rw [h]; decide), if_neg (by rw [h]; decide), if_neg (by rw [h]; decide)]
  have := signL_two L
  omega

theorem line_eq {s : ByteArray} {k j : Nat} (hkj : k ≤ j) (hj : j ≤ s.size) (h : ∀ x, k ≤ x → x < j → bt s x ≠ 10) (he : j = s.size ∨ bt s j = 10) : lineL ((bs s).drop k) = j - k := by
  refine runP_eq _ _ _ (by rw [List.length_drop, bs_length]; omega) (fun x hx => ?_) ?_
  · have := h (k + x) (by omega) (by omega)
    simpa [bt, List.getD, List.getElem?_drop] using this
  · rcases he with he | he
    · left; rw [List.length_drop, bs_length]; omega
    · right
      have e : k + (j - k) = j := by omega
      simpa [bt, List.getD, List.getElem?_drop, e] using he

/-- What word says of the rest of a text. -/
theorem word_says (S : List UInt8) (a n d : Nat) (h : a < S.length) (hb : blankN (S.getD a 0).toNat = false) (hn : (S.getD a 0).toNat ≠ 37) (e1 : sizeL (S.drop a) = n) (e2 : (if sizeL (S.drop a) = 0 then 0 else kindL (S.drop a)) = d) :
    (n = 0 ∧ scanAt S a = none) ∨ (16 < n ∧ d < 4 ∧ scanAt S a = none) ∨ (1 ≤ n ∧ n ≤ 16 ∧ a + n ≤ S.length ∧ scanAt S a = (scanAt S (a + n)).map (fun r => (d, (S.drop a).take n, a) :: r)) := by
  have hl := sizeL_le (S.drop a)
  rw [List.length_drop] at hl
  by_cases h0 : n = 0
  · left
    exact ⟨h0, scanAt_bad S a h hb hn (Or.inl (by rw [e1, h0]))⟩
  · right
    rw [e1, if_neg h0] at e2
    by_cases h16 : 16 < n
    · left
      refine ⟨h16, ?_, scanAt_bad S a h hb hn (Or.inr (by rw [e1]; exact h16))⟩
      have hk : kindL (S.drop a) ≤ 4 := (kindN_pos _).2
      by_cases h4 : kindL (S.drop a) = 4
      · have := kind_four h4
        omega
      · omega
    · right
      have := scanAt_word S a h hb hn (by rw [e1]; exact h0) (by rw [e1]; omega)
      rw [e1, e2] at this
      exact ⟨by omega, by omega, by omega, this⟩

theorem rscan_long (s : ByteArray) (w : World) (h : 4000 < s.size) :
    Calls Tryd.prog 9 #[.string s] w fun e w' => e = .returned (.tuple #[.slice none 0 0, .int .i64 8]) ∧ w' = w := by
  go_enter Tryd.func9, Tryd.ntmps9
  go_wp2
  go_ret2
  exact ⟨rfl, rfl⟩

set_option maxRecDepth 4000 in
set_option maxHeartbeats 4000000 in
theorem rscan_any (s : ByteArray) (w : World) (hs : s.size ≤ 4000) :
    Calls Tryd.prog 9 #[.string s] w fun e w' => Sr s w e w' := by
  go_enter Tryd.func9, Tryd.ntmps9
  go_wp2_with fail
  go_loopw [4, 5] (fun v i wr => ∃ (k : Nat) (L : List Wd), i = .int .i64 k ∧ k ≤ s.size ∧ Hid (scanAt (bs s) 0 = (scanAt (bs s) k).map (fun r => L ++ r)) ∧ L.length ≤ k ∧ Hid (Rw 33 w wr v L)) (fun _ i _ => s.size - (intOf i).toNat)
  case atStart => exact ⟨0, [], rfl, Nat.zero_le _, by show _ = _; cases scanAt (bs s) 0 <;> simp, Nat.le_refl _, Rw.nil _ _⟩
  case round =>
    obtain ⟨k, L, rfl, hk, H1, hLk, HR⟩ := hrel
    by_cases hlt : k < s.size
    · have bk := bt_at s k hlt
      have hltI : (k : Int) < (s.size : Int) := by omega
      cases hb : blankN (bt s k)
      · obtain ⟨n1, n2, n3, n4⟩ := blank_not hb
        have HB : Hid _ := hb
        clear hb
        by_cases hp : bt s k = 37
        · have g37 : ((bt s k : Int) == 37) = true := by rw [hp]; rfl
          have HP : Hid _ := hp
          clear hp
          go_wp2_with fail
          go_loopw [5] (fun i wr' => ∃ j : Nat, k ≤ j ∧ j ≤ s.size ∧ i = .int .i64 j ∧ Hid (∀ x, k ≤ x → x < j → bt s x ≠ 10) ∧ wr' = wr) (fun i _ => s.size - (intOf i).toNat)
          case atStart => exact ⟨k, Nat.le_refl _, hk, rfl, fun x h1 h2 => absurd h2 (by omega), rfl⟩
          case round =>
            obtain ⟨j, hkj, hj, rfl, hx, hw⟩ := hrel
            have hw' := hw.symm
            subst hw'
            have dn : (j = s.size ∨ bt s j = 10) → scanAt (bs s) k = scanAt (bs s) j ∧ k < j := fun he => by
              have hn := scanAt_note (bs s) k hlt HP.out
              rw [line_eq hkj hj hx.out he] at hn
              have e : k + (j - k) = j := by omega
              rw [e] at hn
              exact ⟨hn.1, by omega⟩
            have DN : Hid _ := dn
            clear dn bk
            by_cases hlj : j < s.size
            · have bj := bt_at s j hlj
              have hljI : (j : Int) < (s.size : Int) := by omega
              by_cases h10 : bt s j = 10
              · have g10 : ((bt s j : Int) == 10) = true := by rw [h10]; rfl
                obtain ⟨d1, d2⟩ := DN.out (Or.inr h10)
                have D1 : Hid _ := d1
                clear d1 h10 DN
                go_wp2_with fail
                exact ⟨⟨j, L, rfl, hj, by rw [← D1.out]; exact H1, by omega, HR⟩, by simp [intOf]; omega⟩
              · have g10 : ((bt s j : Int) == 10) = false := by simp; omega
                have H10 : Hid _ := h10
                clear h10
                go_wp2_with fail
                go_roundw
                case rel => exact ⟨j + 1, by omega, by omega, by go_num, fun x h1 h2 => by
                  by_cases e : x < j
                  · exact hx.out x h1 e
                  · have : x = j := by omega
                    rw [this]; exact H10.out, trivial⟩
                case measure => simp [intOf]; omega
            · have hje : j = s.size := by omega
              subst hje
              obtain ⟨d1, d2⟩ := DN.out (Or.inl rfl)
              have D1 : Hid _ := d1
              clear d1 DN
              go_wp2_with fail
              exact ⟨⟨s.size, L, rfl, Nat.le_refl _, by rw [← D1.out]; exact H1, by omega, HR⟩, by simp [intOf]; omega⟩
        · have g37 : ((bt s k : Int) == 37) = false := by simp; omega
          have HP : Hid _ := hp
          clear hp
          obtain ⟨n, hn⟩ : ∃ n, Hid (sizeL ((bs s).drop k) = n) := ⟨_, rfl⟩
          obtain ⟨d, hd⟩ : ∃ d, Hid ((if sizeL ((bs s).drop k) = 0 then 0 else kindL ((bs s).drop k)) = d) := ⟨_, rfl⟩
          have HW : Hid _ := word_says (bs s) k n d hlt HB.out HP.out hn.out hd.out
          go_wp2_with fail
          refine (word_any _ _ (by rw [size_from]; omega) (by rw [size_from]; omega)).mono ?_
          rintro e w1 ⟨rfl, hb⟩
          rw [bs_from, hd.out, hn.out]
          have HR1 : Hid (Rw 33 w w1 u4 L) := HR.out.keep hb
          clear hb HR
          rcases HW.out with ⟨h0, hno⟩ | ⟨h16, h4, hno⟩ | ⟨g1, g2, g3, g4⟩
          · subst h0
            have HN : Hid _ := hno
            clear hno HW hn hd
            go_wp2_with fail
            go_ret2
            exact Or.inr ⟨by rw [H1.out, HN.out]; rfl, _, rfl, HR1.out.below⟩
          · have HN : Hid _ := hno
            clear hno HW hn hd
            have e0 : ((n : Int) == 0) = false := by simp; omega
            have e1 : (d : Int) < 4 := by omega
            have e2 : (16 : Int) < (n : Int) := by omega
            go_wp2_with fail
            go_ret2
            exact Or.inr ⟨by rw [H1.out, HN.out]; rfl, _, rfl, HR1.out.below⟩
          · have H4 : Hid _ := g4
            clear g4 HW hn hd
            have e0 : ((n : Int) == 0) = false := by simp; omega
            have e2 : ¬ (16 : Int) < (n : Int) := by omega
            have hn3 : k + n ≤ s.size := g3
            obtain ⟨X, hX⟩ : ∃ X, Hid (((bs s).drop k).take n = X) := ⟨_, rfl⟩
            rw [hX.out] at H4
            have HX : Hid (s.extract k (k + n) = tx X) := by rw [extract_tx, Nat.add_sub_cancel_left, hX.out]; rfl
            obtain ⟨g, cap, w3, hap, HR3⟩ := push_any 28 33 Tryd.underlying28 Tryd.info33 HR1.out (d, X, k) (by omega)
            clear HR1 g3
            simp only [] at hap
            rw [← HX.out] at hap
            have hgo : Hid (scanAt (bs s) 0 = (scanAt (bs s) (k + n)).map (fun r => (L ++ [(d, X, k)]) ++ r)) := by rw [H1.out, H4.out, map_snoc]; rfl
            clear H1 H4 HX hX HP HB
            by_cases hd4 : (d : Int) < 4
            all_goals go_wp2_with (at_builtin; refine wpList_append_run _ rfl (.tmp 37) (.tmp 47) 28 28 rfl _ _ rfl rfl (hap _) ?_)
            all_goals clear hap
            all_goals (go_roundw
                       case rel => exact ⟨k + n, L ++ [(d, X, k)], by go_num, hn3, hgo, by simp; omega, HR3⟩
                       case measure => simp [intOf]; omega)
      · have HS : Hid _ := scanAt_blank (bs s) k hlt hb
        have h4 := blank_is hb
        clear hb
        have hcs : (((bt s k : Int) == 32) = true) ∨ ((((bt s k : Int) == 32) = false) ∧ (((bt s k : Int) == 9) = true)) ∨ ((((bt s k : Int) == 32) = false) ∧ (((bt s k : Int) == 9) = false) ∧ (((bt s k : Int) == 10) = true)) ∨ ((((bt s k : Int) == 32) = false) ∧ (((bt s k : Int) == 9) = false) ∧ (((bt s k : Int) == 10) = false) ∧ (((bt s k : Int) == 13) = true)) := by
          rcases h4 with h4 | h4 | h4 | h4 <;> rw [h4] <;> simp
        clear h4
        rcases hcs with m1 | ⟨m1, m2⟩ | ⟨m1, m2, m3⟩ | ⟨m1, m2, m3, m4⟩
        all_goals go_wp2_with fail
        all_goals (go_roundw
                   case rel => exact ⟨k + 1, L, by go_num, by omega, by rw [← HS.out]; exact H1, by omega, HR⟩
                   case measure => simp [intOf]; omega)
    · have hke : k = s.size := by omega
      subst hke
      go_wp2_with fail
      go_ret2
      exact Or.inl ⟨_, L, by rw [H1.out, scanAt_end (bs s) s.size (Nat.le_refl _)]; simp, rfl, HR.out⟩

/-- A string's first bytes. -/
def cutS (s : ByteArray) (n : Nat) : ByteArray := if n < s.size then s.extract 0 n else s
theorem cutS_size (s : ByteArray) (n : Nat) : (cutS s n).size ≤ n := by
  unfold cutS
  split
  · simp; omega
  · omega
set_option maxHeartbeats 1000000 in
theorem cutS_any (s : ByteArray) (n : Nat) (w : World) :
    Calls Tryd.prog 7 #[.string s, .int .i64 (n : Int)] w fun e w' => e = .returned (.string (cutS s n)) ∧ w' = w := by
  go_enter Tryd.func7, Tryd.ntmps7
  go_wp2
  all_goals go_ret
  · rename_i h
    rw [cutS, if_pos h]
    exact ⟨rfl, rfl⟩
  · rename_i h
    rw [cutS, if_neg h]
    exact ⟨rfl, rfl⟩

end Go.Proofs.YtpbfimjfplemhaaDoor
namespace Go.Proofs.YtpbfimjfplemhaaDoor
open Go.RowKit

/-- The cells of one word of a row. -/
theorem Rw.at {e : TypeId} {w W : World} {g cap : Nat} {L : List Wd} (h : Rw e w W (.slice (some ⟨g, 0, none⟩) L.length cap) L) (i : Nat) (hi : i < L.length) :
    ∃ x : Wd, L[i]? = some x ∧ W.cell? ⟨g, i * 3, none⟩ = some (.int .i64 (x.1 : Int)) ∧ W.cell? ⟨g, i * 3 + 1, none⟩ = some (.string (tx x.2.1)) ∧ W.cell? ⟨g, i * 3 + 2, none⟩ = some (.int .i64 (x.2.2 : Int)) :=
  ⟨L[i], List.getElem?_eq_getElem hi, h.cells i hi⟩

set_option maxRecDepth 4000 in
set_option maxHeartbeats 4000000 in
theorem scanLaw_any (s : ByteArray) (w : World) (h : Sg w) :
    Calls Tryd.prog 3 #[.string s] w fun e w' => e = .returned (.bool true) ∧ Below w.heap.size w w' := by
  have HS : Hid (Sg w) := h
  clear h
  go_enter Tryd.func3, Tryd.ntmps3
  go_wp2_with fail
  refine (begun_any w HS.out).mono ?_
  rintro e w1 ⟨rfl, hb1⟩
  have HS1 : Hid (Sg w1) := HS.out.below hb1
  have HB1 : Hid _ := hb1
  clear hb1 HS
  go_wp2_with (go_at_call 7; refine (cutS_any _ 400 _).mono ?_; rintro e w' ⟨rfl, hw⟩; have hw' := hw.symm; subst hw'; clear hw)
  have hsz : Hid _ := cutS_size s 400
  generalize cutS s 400 = t at *
  refine (scan_any t w1 HS1.out (by have := hsz.out; omega)).mono ?_
  rintro e w2 (⟨v, L, hL, rfl, hR⟩ | ⟨hn, rfl, hb2⟩)
  · obtain ⟨ao, cap, rfl, hg⟩ := hR.slice
    have hlen : L.length ≤ 400 := by
      have h1 := (scan_apart _ _ _ _ (Nat.le_refl _) hL).2.2
      have h2 := hsz.out
      rw [List.length_drop, bs_length] at h1
      omega
    have HR : Hid _ := hR
    have HL : Hid _ := hL
    have HG : Hid _ := hg
    clear hR hL hg HS1
    go_wp2_with fail
    refine (rscan_any t w2 (by have := hsz.out; omega)).mono ?_
    rintro e w3 (⟨v', L', hL', rfl, hR'⟩ | ⟨hn, _⟩)
    · rw [HL.out] at hL'
      obtain rfl := Option.some.inj hL'
      obtain ⟨ao', cap', rfl, hg'⟩ := hR'.slice
      have HR' : Hid _ := hR'
      have HR3 : Hid _ := HR.out.keep (hR'.below)
      have HG' : Hid _ := hg'
      have HB3 : Hid (Below w.heap.size w w3) := HB1.out.trans (HR3.out.below.mono HB1.out.size)
      clear hR' hg' HR hL' HL
      go_wp2_with fail
      go_loopw [8] (fun i wr => ∃ k : Nat, k ≤ L.length ∧ i = .int .i64 k ∧ Hid (Below w3.heap.size w3 wr)) (fun i _ => L.length - (intOf i).toNat)
      case atStart => exact ⟨0, Nat.zero_le _, rfl, Below.refl _ _⟩
      case round =>
        obtain ⟨k, hk, rfl, HW⟩ := hrel
        by_cases hlt : k < L.length
        · obtain ⟨g, rfl⟩ := HG.out (by omega)
          obtain ⟨g', rfl⟩ := HG'.out (by omega)
          have hltI : (k : Int) < (L.length : Int) := by omega
          obtain ⟨x, hx, c0, c1, c2⟩ := (HR3.out.keep HW.out).at k hlt
          obtain ⟨y, hy, d0, d1, d2⟩ := (HR'.out.keep HW.out).at k hlt
          have hxy : y = x := Option.some.inj (hy.symm.trans hx)
          subst hxy
          clear hx hy
          go_wp2_with fail
          go_quiet (fail)
          go_wp2_with fail
          go_roundw
          case rel => exact ⟨k + 1, by omega, by go_num, HW.out.os, HW.out.tape, HW.out.output, HW.out.size, HW.out.block⟩
          case measure => simp [intOf]; omega
        · have hke : k = L.length := by omega
          subst hke
          go_wp2_with fail
          go_ret
          exact ⟨rfl, HB3.out.trans (HW.out.mono HB3.out.size)⟩
    · rw [HL.out] at hn
      cases hn
  · have HN : Hid _ := hn
    have HB2 : Hid _ := HB1.out.trans (hb2.mono HB1.out.size)
    clear hn hb2 HS1
    go_wp2_with fail
    refine (rscan_any t w2 (by have := hsz.out; omega)).mono ?_
    rintro e w3 (⟨v', L', hL', rfl, hR'⟩ | ⟨hn, v', rfl, hb3⟩)
    · rw [HN.out] at hL'
      cases hL'
    · have HB3 : Hid _ := HB2.out.trans (hb3.mono HB2.out.size)
      clear hn hb3
      go_wp2_with fail
      go_ret
      exact ⟨rfl, HB3.out⟩

end Go.Proofs.YtpbfimjfplemhaaDoor
namespace Go.Proofs.YtpbfimjfplemhaaDoor
open Go.RowKit

def cells8 (l : List UInt8) : List Value := l.map fun b => .int .u8 (b.toNat : Int)
theorem made_zeros (n : Nat) : (madeCells (Value.int .u8 0).cells (n * 1)).toList = cells8 (List.replicate n 0) := by
  have hz : ∀ j : Nat, (Value.int .u8 0).cells[j % (Value.int .u8 0).cells.size]! = .int .u8 0 := by
    intro j
    have e : (Value.int .u8 0).cells = #[.int .u8 0] := rfl
    rw [e, show (#[Value.int .u8 0] : Array Value).size = 1 from rfl, Nat.mod_one]
    rfl
  unfold madeCells
  rw [show (fun x => (Value.int .u8 0).cells[x % (Value.int .u8 0).cells.size]!) = fun _ => Value.int .u8 0 from funext hz]
  simp [cells8, List.map_const']
theorem cells8_set (l : List UInt8) (j : Nat) (y : UInt8) : (cells8 l).set j (.int .u8 (y.toNat : Int)) = cells8 (l.set j y) := by
  simp [cells8, List.map_set]
theorem Tryd.info5 : (Tryd.prog.info? 5).map (fun i => (i.zero, i.size, i.bytes)) = some (some (.int .u8 0), 1, 1) := by kernel_rfl

/-- Blanks as far as they are laid, noughts behind them. -/
def blanksL (n k : Nat) : List UInt8 := List.replicate k 32 ++ List.replicate (n - k) 0
theorem blanks_len (n k : Nat) (h : k ≤ n) : (blanksL n k).length = n := by simp [blanksL]; omega
theorem blanks_set (n k : Nat) (h : k < n) : (blanksL n k).set k 32 = blanksL n (k + 1) := by
  unfold blanksL
  rw [List.set_append_right _ _ (by simp), List.length_replicate, Nat.sub_self]
  obtain ⟨m, hm⟩ : ∃ m, n - k = m + 1 := ⟨n - k - 1, by omega⟩
  have hm' : n - (k + 1) = m := by omega
  rw [hm, hm', List.replicate_succ, List.set_cons_zero, List.replicate_succ']
  simp

/-- The row of blanks under way. -/
structure Bl (w W : World) (g n k : Nat) : Prop where
  row : W.ownsRow w.heap.size 5 1 (.slice (some ⟨g, 0, none⟩) n n) n (cells8 (blanksL n k))
  below : Below w.heap.size w W
  far : w.heap.size ≤ g
theorem Bl.next {w W : World} {g n k : Nat} (h : Bl w W g n k) (hk : k < n) : Bl w (W.setCell ⟨g, k, none⟩ (.int .u8 32)) g n (k + 1) := by
  have hs := (h.row.stored k (.int .u8 ((32 : UInt8).toNat : Int))).1
  rw [cells8_set, blanks_set n k hk] at hs
  exact ⟨hs, h.below.setCell (p := ⟨g, k, none⟩) h.far _, h.far⟩
theorem Bl.cell {w W : World} {g n k : Nat} (h : Bl w W g n k) (hk : k < n) : (∃ x, W.cell? ⟨g, k, none⟩ = some x) ∧ W.frozen? ⟨g, k, none⟩ = false := by
  constructor
  · rw [h.row.cellAt k (by omega)]
    have : k < (cells8 (blanksL n k)).length := by simp [cells8, blanks_len n k (by omega)]; omega
    exact ⟨_, List.getElem?_eq_getElem this⟩
  · rcases h.row.2 with ⟨e, _⟩ | ⟨g', cap', cur, e1, e2, e3, _⟩
    · simp at e
    · simp only [Value.slice.injEq, Option.some.injEq, Addr.mk.injEq, and_true, true_and] at e1
      obtain ⟨rfl, rfl⟩ := e1
      exact frozen_of_row W g k _ _ e3
theorem Bl.text {w W : World} {g n : Nat} (h : Bl w W g n n) : (convert 35 9 (.slice (some ⟨g, 0, none⟩) n n)).run Tryd.prog W = .ok (.string (tx (List.replicate n 32))) W := by
  have := run_convert_bytes_back (P := Tryd.prog) W 35 9 5 ⟨g, 0, none⟩ n (List.replicate n 32) Tryd.underlying35 Tryd.underlying5 Tryd.underlying9 (fun j hj => by
    rw [Addr.add_lit, Nat.zero_add, h.row.cellAt j (by simpa using hj)]
    have hj' : j < n := by simpa using hj
    simp [cells8, blanksL, hj'])
  rw [List.length_replicate] at this
  exact this

/-- What the first Scan of the law gives. -/
theorem long_scan (n : Nat) (w : World) (h : Sg w) : ∃ ee : Int, ((4000 < n ∧ ee = 8) ∨ (n ≤ 4000 ∧ ee = 0)) ∧
    Calls Tryd.prog 8 #[.string (tx (List.replicate n 32))] w fun e w' => ∃ v, e = .returned (.tuple #[v, .int .i64 ee]) ∧ Hid (Below w.heap.size w w') := by
  by_cases hn : 4000 < n
  · refine ⟨8, Or.inl ⟨hn, rfl⟩, (scan_long _ w (by rw [tx_size, List.length_replicate]; exact hn)).mono ?_⟩
    rintro e w' ⟨rfl, rfl⟩
    exact ⟨_, rfl, Below.refl _ _⟩
  · refine ⟨0, Or.inr ⟨by omega, rfl⟩, (scan_any _ w h (by rw [tx_size, List.length_replicate]; omega)).mono ?_⟩
    have hb : scanAt (bs (tx (List.replicate n 32))) 0 = some [] := scan_blanks n 0
    rintro e w' (⟨v, L, hL, rfl, hR⟩ | ⟨hn, _⟩)
    · exact ⟨_, rfl, hR.below⟩
    · rw [hb] at hn; cases hn

/-- The letter that the law takes. -/
def letN (q : Nat) : UInt8 := if q = 0 then 97 else if q = 1 then 65 else 55
theorem letN_is (q : Nat) : letN q = 97 ∨ letN q = 65 ∨ letN q = 55 := by
  unfold letN
  repeat' split
  all_goals simp

/-- What the second Scan of the law gives. -/
theorem word_scan (q k : Nat) (w : World) (h : Sg w) (hk : 1 ≤ k) (hk2 : k ≤ 40) :
    (16 < k → Calls Tryd.prog 8 #[.string (tx (List.replicate k (letN q)))] w fun e w' => e = .returned (.tuple #[.slice none 0 0, .int .i64 4]) ∧ Hid (Below w.heap.size w w')) ∧
    (k ≤ 16 → Calls Tryd.prog 8 #[.string (tx (List.replicate k (letN q)))] w fun e w' => ∃ g cap, e = .returned (.tuple #[.slice (some ⟨g, 0, none⟩) 1 cap, .int .i64 0]) ∧ w'.cell? ⟨g, 1, none⟩ = some (.string (tx (List.replicate k (letN q)))) ∧ Hid (Below w.heap.size w w')) := by
  have hs := scan_same (letN q) (letN_is q) k hk
  have hb : scanAt (bs (tx (List.replicate k (letN q)))) 0 = if k ≤ 16 then some [(kindN (letN q).toNat, List.replicate k (letN q), 0)] else none := hs
  have hc := scan_any (tx (List.replicate k (letN q))) w h (by rw [tx_size, List.length_replicate]; omega)
  constructor
  · intro h16
    refine hc.mono ?_
    rw [if_neg (by omega)] at hb
    rintro e w' (⟨v, L, hL, rfl, hR⟩ | ⟨_, rfl, hB⟩)
    · rw [hb] at hL; cases hL
    · exact ⟨rfl, hB⟩
  · intro h16
    refine hc.mono ?_
    rw [if_pos h16] at hb
    rintro e w' (⟨v, L, hL, rfl, hR⟩ | ⟨hn, _⟩)
    · rw [hb] at hL
      obtain rfl := Option.some.inj hL
      obtain ⟨ao, cap, rfl, hg⟩ := hR.slice
      obtain ⟨g, rfl⟩ := hg (by simp)
      exact ⟨g, cap, rfl, (hR.cells 0 (by simp)).2.1, hR.below⟩
    · rw [hb] at hn; cases hn

theorem rem_three (x : Int) : ∃ (r : Int) (q : Nat), Int.tmod x 3 = r ∧ -2 ≤ r ∧ r ≤ 2 ∧ Int.tmod (r + 3) 3 = (q : Int) ∧ q < 3 := by
  have h1 := Int.tmod_lt_of_pos x (show (0 : Int) < 3 by decide)
  have h2 := Int.lt_tmod_of_pos x (show (0 : Int) < 3 by decide)
  have h3 := Int.tmod_lt_of_pos (Int.tmod x 3 + 3) (show (0 : Int) < 3 by decide)
  have h4 := Int.tmod_nonneg 3 (show 0 ≤ Int.tmod x 3 + 3 by omega)
  refine ⟨_, (Int.tmod (Int.tmod x 3 + 3) 3).toNat, rfl, ?_, ?_, ?_, ?_⟩ <;> omega

theorem let_cell (w : World) (q : Nat) (h : q < 3) : (w.alloc (.cells #[.string ⟨#[97]⟩, .string ⟨#[65]⟩, .string ⟨#[55]⟩] 9)).cell? ⟨w.heap.size, q, none⟩ = some (.string (tx [letN q])) := by
  rw [cell_of_row _ _ _ _ _ _ (heap_alloc_new _ _)]
  have : q = 0 ∨ q = 1 ∨ q = 2 := by omega
  rcases this with rfl | rfl | rfl <;> rfl
theorem tx_app (a b : List UInt8) : tx a ++ tx b = tx (a ++ b) := by
  apply ByteArray.ext
  simp [tx]
theorem tx_more (c : UInt8) (m : Nat) : tx (List.replicate m c) ++ tx [c] = tx (List.replicate (m + 1) c) := by
  rw [List.replicate_succ']
  exact tx_app _ _

set_option maxRecDepth 4000 in
set_option maxHeartbeats 4000000 in
theorem longLaw_any (n k kind : Int) (w : World) (h : Sg w) :
    Calls Tryd.prog 4 #[.int .i64 n, .int .i64 k, .int .i64 kind] w fun e w' => e = .returned (.bool true) ∧ Below w.heap.size w w' := by
  have HS : Hid (Sg w) := h
  clear h
  go_enter Tryd.func4, Tryd.ntmps4
  go_wp2_with fail
  refine (begun_any w HS.out).mono ?_
  rintro e w1 ⟨rfl, hb1⟩
  have HB1 : Hid _ := hb1
  clear hb1
  by_cases c1 : n < 0
  · go_wp2_with fail
    go_ret
    exact ⟨rfl, HB1.out⟩
  by_cases c2 : 5000 < n
  · go_wp2_with fail
    go_ret
    exact ⟨rfl, HB1.out⟩
  by_cases c3 : k < 1
  · go_wp2_with fail
    go_ret
    exact ⟨rfl, HB1.out⟩
  by_cases c4 : 40 < k
  · go_wp2_with fail
    go_ret
    exact ⟨rfl, HB1.out⟩
  obtain ⟨n, rfl⟩ : ∃ m : Nat, n = (m : Int) := ⟨n.toNat, by omega⟩
  obtain ⟨k, rfl⟩ : ∃ m : Nat, k = (m : Int) := ⟨k.toNat, by omega⟩
  obtain ⟨i, hi, hz0, hz1, hz2⟩ := info_parts Tryd.info5
  obtain ⟨w2, hm2, hO2, hg2⟩ := run_make_full (P := Tryd.prog) w1 w.heap.size 35 5 i (.int .u8 0) 1 Tryd.underlying35 hi hz0 hz1 .i64 .i64 n (by rw [hz2]; omega) (by simp [maxLen]; omega) HB1.out.size
  rw [made_zeros] at hO2
  have HL : Hid (Bl w w2 w1.heap.size n 0) := ⟨by simpa [blanksL] using hO2, HB1.out.trans (grown_below hg2 HB1.out.size (fun k hk => by cases hk)), HB1.out.size⟩
  clear hO2 hg2 hi hz0 hz1 hz2
  generalize w1.heap.size = g at *
  go_wp2_with fail
  go_loopw [9] (fun i wr => ∃ j : Nat, j ≤ n ∧ i = .int .i64 j ∧ Hid (Bl w wr g n j)) (fun i _ => n - (intOf i).toNat)
  case atStart => exact ⟨0, Nat.zero_le _, rfl, HL⟩
  case round =>
    obtain ⟨j, hj, rfl, HJ⟩ := hrel
    clear HL hm2
    by_cases hlt : j < n
    · obtain ⟨⟨x, d0⟩, d1⟩ := HJ.out.cell hlt
      have HN : Hid _ := HJ.out.next hlt
      have hltI : (j : Int) < (n : Int) := by omega
      clear HJ
      go_wp2_with fail
      go_roundw
      case rel => exact ⟨j + 1, by omega, by go_num, HN⟩
      case measure => simp [intOf]; omega
    · have hje : j = n := by omega
      subst hje
      have hcv := HJ.out.text
      obtain ⟨ee, hee, hC⟩ := long_scan j wr (HS.out.below HJ.out.below)
      have HC : Hid _ := hC
      clear hC
      go_wp2_with fail
      refine Calls.mono HC.out ?_
      rintro e w3 ⟨v3, rfl, hb3⟩
      have HB3 : Hid _ := HJ.out.below.trans (hb3.out.mono HJ.out.below.size)
      clear HC hcv hb3 HJ
      obtain ⟨r, q, e1, e2, e3, e4, e5⟩ := rem_three kind
      go_wp2_with fail
      have hk1 : 1 ≤ k := by omega
      have hk40 : k ≤ 40 := by omega
      go_loopw [12, 13] (fun x i wr => ∃ m : Nat, m ≤ k ∧ i = .int .i64 m ∧ x = .string (tx (List.replicate m (letN q))) ∧ Hid (Below w.heap.size w wr)) (fun _ i _ => k - (intOf i).toNat)
      case atStart => exact ⟨0, Nat.zero_le _, rfl, rfl, HB3⟩
      case round =>
        obtain ⟨m, hm, rfl, rfl, HM⟩ := hrel
        by_cases hlt2 : m < k
        · have hltI : (m : Int) < (k : Int) := by omega
          have hcell := let_cell wr q e5
          have y1 : (tx (List.replicate m (letN q))).size ≤ 40 := by rw [tx_size, List.length_replicate]; omega
          have y2 : (tx [letN q]).size ≤ 1 := by rw [tx_size]; simp
          have HT : Hid _ := tx_more (letN q) m
          have e5I : (q : Int) < 3 := by omega
          have HM2 : Hid _ := HM.out.alloc HM.out.size (.cells #[.string ⟨#[97]⟩, .string ⟨#[65]⟩, .string ⟨#[55]⟩] 9)
          clear HM
          generalize tx (List.replicate m (letN q)) = X at *
          generalize tx [letN q] = Y at *
          go_wp2_with fail
          exact ⟨⟨m + 1, by omega, by go_num, by rw [HT.out], HM2⟩, by simp [intOf]; omega⟩
        · have hme : m = k := by omega
          subst hme
          obtain ⟨ws1, ws2⟩ := word_scan q m wr (HS.out.below HM.out) hk1 hk40
          have W1 : Hid _ := ws1
          have W2 : Hid _ := ws2
          clear ws1 ws2
          by_cases h16 : 16 < m
          · have HC : Hid _ := W1.out h16
            have h16I : (16 : Int) < (m : Int) := by omega
            clear W1 W2
            generalize tx (List.replicate m (letN q)) = X at *
            go_wp2_with fail
            refine Calls.mono HC.out ?_
            rintro e w5 ⟨rfl, hb5⟩
            have HB5 : Hid _ := HM.out.trans (hb5.out.mono HM.out.size)
            clear HC hb5 HM HB3
            rcases hee with ⟨x1, rfl⟩ | ⟨x1, rfl⟩
            · have x2 : (4000 : Int) < (j : Int) := by omega
              go_wp2_with fail
              go_ret
              exact ⟨rfl, HB5.out⟩
            · have x2 : ¬ (4000 : Int) < (j : Int) := by omega
              have x3 : (j : Int) ≤ 4000 := by omega
              go_wp2_with fail
              go_ret
              exact ⟨rfl, HB5.out⟩
          · have HC : Hid _ := W2.out (by omega)
            have h16I : ¬ (16 : Int) < (m : Int) := by omega
            clear W1 W2
            generalize tx (List.replicate m (letN q)) = X at *
            go_wp2_with fail
            refine Calls.mono HC.out ?_
            rintro e w5 ⟨g5, cap5, rfl, c5, hb5⟩
            have HB5 : Hid _ := HM.out.trans (hb5.out.mono HM.out.size)
            clear HC hb5 HM HB3
            rcases hee with ⟨x1, rfl⟩ | ⟨x1, rfl⟩
            · have x2 : (4000 : Int) < (j : Int) := by omega
              go_wp2_with fail
              go_ret
              exact ⟨rfl, HB5.out⟩
            · have x2 : ¬ (4000 : Int) < (j : Int) := by omega
              have x3 : (j : Int) ≤ 4000 := by omega
              go_wp2_with fail
              go_ret
              exact ⟨rfl, HB5.out⟩

end Go.Proofs.YtpbfimjfplemhaaDoor

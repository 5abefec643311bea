/- The walk of the reference's Scan. The law of Scan: any text is cut into words, or refused. The law of words apart: the words of a text, printed with a blank between, are the same words. -/
import Derived.Test.YtpbfimjfplemhaaDoorPart03
import Derived.Test.YtpbfimjfplemhaaDoorPart02
namespace Go.Proofs.YtpbfimjfplemhaaDoor
open Go.RowKit

theorem word_any (s : ByteArray) (w : World) (h0 : 0 < s.size) (hs : s.size ≤ 4000) : Calls Tryd.prog 13 #[.string s] w fun e w' => Wr s w e w' := by
  by_cases h1 : smallN (bt s 0) = true
  · exact word_small s w h0 hs h1
  rw [Bool.not_eq_true] at h1
  by_cases h2 : greatN (bt s 0) = true
  · exact word_great s w h0 hs h1 h2
  rw [Bool.not_eq_true] at h2
  by_cases h3 : digitN (bt s 0) = true
  · exact word_digit s w h0 hs h1 h2 h3
  rw [Bool.not_eq_true] at h3
  by_cases h4 : bt s 0 = 45
  · by_cases hd : 1 < s.size ∧ digitN (bt s 1) = true
    · exact word_minus s w h0 hd.1 hs h1 h2 h3 h4 hd.2
    · exact word_bare s w h0 hs h1 h2 h3 h4 fun hl => by
        cases hx : digitN (bt s 1)
        · rfl
        · exact absurd ⟨hl, hx⟩ hd
  · exact word_sign s w h0 hs h1 h2 h3 h4

/-- What the reference's Scan gives. -/
def Sr (s : ByteArray) (w : World) (r : Ending) (w' : World) : Prop :=
  (∃ v L, scanAt (bs s) 0 = some L ∧ r = .returned (.tuple #[v, .int .i64 0]) ∧ Rw 33 w w' v L) ∨ (scanAt (bs s) 0 = none ∧ ∃ v, r = .returned (.tuple #[v, .int .i64 4]) ∧ Below w.heap.size w w')

theorem blank_not {n : Nat} (h : blankN n = false) : ((n : Int) == 32) = false ∧ ((n : Int) == 9) = false ∧ ((n : Int) == 10) = false ∧ ((n : Int) == 13) = false := by
  simp [blankN] at h
  simp
  omega
theorem blank_is {n : Nat} (h : blankN n = true) : n = 32 ∨ n = 9 ∨ n = 10 ∨ n = 13 := by
  simp [blankN] at h
  omega

theorem kind_four {L : List UInt8} (h : kindL L = 4) : sizeL L ≤ 16 := by
  rw [sizeL, if_neg (by rw [h]; decide), if_neg (by rw [h]; decide), if_neg (by rw [h]; decide)]
  have := signL_two L
  omega

theorem line_eq {s : ByteArray} {k j : Nat} (hkj : k ≤ j) (hj : j ≤ s.size) (h : ∀ x, k ≤ x → x < j → bt s x ≠ 10) (he : j = s.size ∨ bt s j = 10) : lineL ((bs s).drop k) = j - k := by
  refine runP_eq _ _ _ (by rw [List.length_drop, bs_length]; omega) (fun x hx => ?_) ?_
  · have := h (k + x) (by omega) (by omega)
    simpa [bt, List.getD, List.getElem?_drop] using this
  · rcases he with he | he
    · left; rw [List.length_drop, bs_length]; omega
    · right
      have e : k + (j - k) = j := by omega
      simpa [bt, List.getD, List.getElem?_drop, e] using he

/-- What word says of the rest of a text. -/
theorem word_says (S : List UInt8) (a n d : Nat) (h : a < S.length) (hb : blankN (S.getD a 0).toNat = false) (hn : (S.getD a 0).toNat ≠ 37) (e1 : sizeL (S.drop a) = n) (e2 : (if sizeL (S.drop a) = 0 then 0 else kindL (S.drop a)) = d) :
    (n = 0 ∧ scanAt S a = none) ∨ (16 < n ∧ d < 4 ∧ scanAt S a = none) ∨ (1 ≤ n ∧ n ≤ 16 ∧ a + n ≤ S.length ∧ scanAt S a = (scanAt S (a + n)).map (fun r => (d, (S.drop a).take n, a) :: r)) := by
  have hl := sizeL_le (S.drop a)
  rw [List.length_drop] at hl
  by_cases h0 : n = 0
  · left
    exact ⟨h0, scanAt_bad S a h hb hn (Or.inl (by rw [e1, h0]))⟩
  · right
    rw [e1, if_neg h0] at e2
    by_cases h16 : 16 < n
    · left
      refine ⟨h16, ?_, scanAt_bad S a h hb hn (Or.inr (by rw [e1]; exact h16))⟩
      have hk : kindL (S.drop a) ≤ 4 := (kindN_pos _).2
      by_cases h4 : kindL (S.drop a) = 4
      · have := kind_four h4
        omega
      · omega
    · right
      have := scanAt_word S a h hb hn (by rw [e1]; exact h0) (by rw [e1]; omega)
      rw [e1, e2] at this
      exact ⟨by omega, by omega, by omega, this⟩

theorem rscan_long (s : ByteArray) (w : World) (h : 4000 < s.size) :
    Calls Tryd.prog 9 #[.string s] w fun e w' => e = .returned (.tuple #[.slice none 0 0, .int .i64 8]) ∧ w' = w := by
  go_enter Tryd.func9, Tryd.ntmps9
  go_wp2
  go_ret2
  exact ⟨rfl, rfl⟩

set_option maxRecDepth 4000 in
set_option maxHeartbeats 4000000 in
theorem rscan_any (s : ByteArray) (w : World) (hs : s.size ≤ 4000) :
    Calls Tryd.prog 9 #[.string s] w fun e w' => Sr s w e w' := by
  go_enter Tryd.func9, Tryd.ntmps9
  go_wp2_with fail
  go_loopw [4, 5] (fun v i wr => ∃ (k : Nat) (L : List Wd), i = .int .i64 k ∧ k ≤ s.size ∧ Hid (scanAt (bs s) 0 = (scanAt (bs s) k).map (fun r => L ++ r)) ∧ L.length ≤ k ∧ Hid (Rw 33 w wr v L)) (fun _ i _ => s.size - (intOf i).toNat)
  case atStart => exact ⟨0, [], rfl, Nat.zero_le _, by show _ = _; cases scanAt (bs s) 0 <;> simp, Nat.le_refl _, Rw.nil _ _⟩
  case round =>
    obtain ⟨k, L, rfl, hk, H1, hLk, HR⟩ := hrel
    by_cases hlt : k < s.size
    · have bk := bt_at s k hlt
      have hltI : (k : Int) < (s.size : Int) := by omega
      cases hb : blankN (bt s k)
      · obtain ⟨n1, n2, n3, n4⟩ := blank_not hb
        have HB : Hid _ := hb
        clear hb
        by_cases hp : bt s k = 37
        · have g37 : ((bt s k : Int) == 37) = true := by rw [hp]; rfl
          have HP : Hid _ := hp
          clear hp
          go_wp2_with fail
          go_loopw [5] (fun i wr' => ∃ j : Nat, k ≤ j ∧ j ≤ s.size ∧ i = .int .i64 j ∧ Hid (∀ x, k ≤ x → x < j → bt s x ≠ 10) ∧ wr' = wr) (fun i _ => s.size - (intOf i).toNat)
          case atStart => exact ⟨k, Nat.le_refl _, hk, rfl, fun x h1 h2 => absurd h2 (by omega), rfl⟩
          case round =>
            obtain ⟨j, hkj, hj, rfl, hx, hw⟩ := hrel
            have hw' := hw.symm
            subst hw'
            have dn : (j = s.size ∨ bt s j = 10) → scanAt (bs s) k = scanAt (bs s) j ∧ k < j := fun he => by
              have hn := scanAt_note (bs s) k hlt HP.out
              rw [line_eq hkj hj hx.out he] at hn
              have e : k + (j - k) = j := by omega
              rw [e] at hn
              exact ⟨hn.1, by omega⟩
            have DN : Hid _ := dn
            clear dn bk
            by_cases hlj : j < s.size
            · have bj := bt_at s j hlj
              have hljI : (j : Int) < (s.size : Int) := by omega
              by_cases h10 : bt s j = 10
              · have g10 : ((bt s j : Int) == 10) = true := by rw [h10]; rfl
                obtain ⟨d1, d2⟩ := DN.out (Or.inr h10)
                have D1 : Hid _ := d1
                clear d1 h10 DN
                go_wp2_with fail
                exact ⟨⟨j, L, rfl, hj, by rw [← D1.out]; exact H1, by omega, HR⟩, by simp [intOf]; omega⟩
              · have g10 : ((bt s j : Int) == 10) = false := by simp; omega
                have H10 : Hid _ := h10
                clear h10
                go_wp2_with fail
                go_roundw
                case rel => exact ⟨j + 1, by omega, by omega, by go_num, fun x h1 h2 => by
                  by_cases e : x < j
                  · exact hx.out x h1 e
                  · have : x = j := by omega
                    rw [this]; exact H10.out, trivial⟩
                case measure => simp [intOf]; omega
            · have hje : j = s.size := by omega
              subst hje
              obtain ⟨d1, d2⟩ := DN.out (Or.inl rfl)
              have D1 : Hid _ := d1
              clear d1 DN
              go_wp2_with fail
              exact ⟨⟨s.size, L, rfl, Nat.le_refl _, by rw [← D1.out]; exact H1, by omega, HR⟩, by simp [intOf]; omega⟩
        · have g37 : ((bt s k : Int) == 37) = false := by simp; omega
          have HP : Hid _ := hp
          clear hp
          obtain ⟨n, hn⟩ : ∃ n, Hid (sizeL ((bs s).drop k) = n) := ⟨_, rfl⟩
          obtain ⟨d, hd⟩ : ∃ d, Hid ((if sizeL ((bs s).drop k) = 0 then 0 else kindL ((bs s).drop k)) = d) := ⟨_, rfl⟩
          have HW : Hid _ := word_says (bs s) k n d hlt HB.out HP.out hn.out hd.out
          go_wp2_with fail
          refine (word_any _ _ (by rw [size_from]; omega) (by rw [size_from]; omega)).mono ?_
          rintro e w1 ⟨rfl, hb⟩
          rw [bs_from, hd.out, hn.out]
          have HR1 : Hid (Rw 33 w w1 u4 L) := HR.out.keep hb
          clear hb HR
          rcases HW.out with ⟨h0, hno⟩ | ⟨h16, h4, hno⟩ | ⟨g1, g2, g3, g4⟩
          · subst h0
            have HN : Hid _ := hno
            clear hno HW hn hd
            go_wp2_with fail
            go_ret2
            exact Or.inr ⟨by rw [H1.out, HN.out]; rfl, _, rfl, HR1.out.below⟩
          · have HN : Hid _ := hno
            clear hno HW hn hd
            have e0 : ((n : Int) == 0) = false := by simp; omega
            have e1 : (d : Int) < 4 := by omega
            have e2 : (16 : Int) < (n : Int) := by omega
            go_wp2_with fail
            go_ret2
            exact Or.inr ⟨by rw [H1.out, HN.out]; rfl, _, rfl, HR1.out.below⟩
          · have H4 : Hid _ := g4
            clear g4 HW hn hd
            have e0 : ((n : Int) == 0) = false := by simp; omega
            have e2 : ¬ (16 : Int) < (n : Int) := by omega
            have hn3 : k + n ≤ s.size := g3
            obtain ⟨X, hX⟩ : ∃ X, Hid (((bs s).drop k).take n = X) := ⟨_, rfl⟩
            rw [hX.out] at H4
            have HX : Hid (s.extract k (k + n) = tx X) := by rw [extract_tx, Nat.add_sub_cancel_left, hX.out]; rfl
            obtain ⟨g, cap, w3, hap, HR3⟩ := push_any 28 33 Tryd.underlying28 Tryd.info33 HR1.out (d, X, k) (by omega)
            clear HR1 g3
            simp only [] at hap
            rw [← HX.out] at hap
            have hgo : Hid (scanAt (bs s) 0 = (scanAt (bs s) (k + n)).map (fun r => (L ++ [(d, X, k)]) ++ r)) := by rw [H1.out, H4.out, map_snoc]; rfl
            clear H1 H4 HX hX HP HB
            by_cases hd4 : (d : Int) < 4
            all_goals go_wp2_with (at_builtin; refine wpList_append_run _ rfl (.tmp 37) (.tmp 47) 28 28 rfl _ _ rfl rfl (hap _) ?_)
            all_goals clear hap
            all_goals (go_roundw
                       case rel => exact ⟨k + n, L ++ [(d, X, k)], by go_num, hn3, hgo, by simp; omega, HR3⟩
                       case measure => simp [intOf]; omega)
      · have HS : Hid _ := scanAt_blank (bs s) k hlt hb
        have h4 := blank_is hb
        clear hb
        have hcs : (((bt s k : Int) == 32) = true) ∨ ((((bt s k : Int) == 32) = false) ∧ (((bt s k : Int) == 9) = true)) ∨ ((((bt s k : Int) == 32) = false) ∧ (((bt s k : Int) == 9) = false) ∧ (((bt s k : Int) == 10) = true)) ∨ ((((bt s k : Int) == 32) = false) ∧ (((bt s k : Int) == 9) = false) ∧ (((bt s k : Int) == 10) = false) ∧ (((bt s k : Int) == 13) = true)) := by
          rcases h4 with h4 | h4 | h4 | h4 <;> rw [h4] <;> simp
        clear h4
        rcases hcs with m1 | ⟨m1, m2⟩ | ⟨m1, m2, m3⟩ | ⟨m1, m2, m3, m4⟩
        all_goals go_wp2_with fail
        all_goals (go_roundw
                   case rel => exact ⟨k + 1, L, by go_num, by omega, by rw [← HS.out]; exact H1, by omega, HR⟩
                   case measure => simp [intOf]; omega)
    · have hke : k = s.size := by omega
      subst hke
      go_wp2_with fail
      go_ret2
      exact Or.inl ⟨_, L, by rw [H1.out, scanAt_end (bs s) s.size (Nat.le_refl _)]; simp, rfl, HR.out⟩

/-- A string's first bytes. -/
def cutS (s : ByteArray) (n : Nat) : ByteArray := if n < s.size then s.extract 0 n else s
theorem cutS_size (s : ByteArray) (n : Nat) : (cutS s n).size ≤ n := by
  unfold cutS
  split
  · simp; omega
  · omega
set_option maxHeartbeats 1000000 in
theorem cutS_any (s : ByteArray) (n : Nat) (w : World) :
    Calls Tryd.prog 7 #[.string s, .int .i64 (n : Int)] w fun e w' => e = .returned (.string (cutS s n)) ∧ w' = w := by
  go_enter Tryd.func7, Tryd.ntmps7
  go_wp2
  all_goals go_ret
  · rename_i h
    rw [cutS, if_pos h]
    exact ⟨rfl, rfl⟩
  · rename_i h
    rw [cutS, if_neg h]
    exact ⟨rfl, rfl⟩

end Go.Proofs.YtpbfimjfplemhaaDoor
namespace Go.Proofs.YtpbfimjfplemhaaDoor
open Go.RowKit

/-- The cells of one word of a row. -/
theorem Rw.at {e : TypeId} {w W : World} {g cap : Nat} {L : List Wd} (h : Rw e w W (.slice (some ⟨g, 0, none⟩) L.length cap) L) (i : Nat) (hi : i < L.length) :
    ∃ x : Wd, L[i]? = some x ∧ W.cell? ⟨g, i * 3, none⟩ = some (.int .i64 (x.1 : Int)) ∧ W.cell? ⟨g, i * 3 + 1, none⟩ = some (.string (tx x.2.1)) ∧ W.cell? ⟨g, i * 3 + 2, none⟩ = some (.int .i64 (x.2.2 : Int)) :=
  ⟨L[i], List.getElem?_eq_getElem hi, h.cells i hi⟩

set_option maxRecDepth 4000 in
set_option maxHeartbeats 4000000 in
theorem scanLaw_any (s : ByteArray) (w : World) (h : Sg w) :
    Calls Tryd.prog 3 #[.string s] w fun e w' => e = .returned (.bool true) ∧ Below w.heap.size w w' := by
  have HS : Hid (Sg w) := h
  clear h
  go_enter Tryd.func3, Tryd.ntmps3
  go_wp2_with fail
  refine (begun_any w HS.out).mono ?_
  rintro e w1 ⟨rfl, hb1⟩
  have HS1 : Hid (Sg w1) := HS.out.below hb1
  have HB1 : Hid _ := hb1
  clear hb1 HS
  go_wp2_with (go_at_call 7; refine (cutS_any _ 400 _).mono ?_; rintro e w' ⟨rfl, hw⟩; have hw' := hw.symm; subst hw'; clear hw)
  have hsz : Hid _ := cutS_size s 400
  generalize cutS s 400 = t at *
  refine (scan_any t w1 HS1.out (by have := hsz.out; omega)).mono ?_
  rintro e w2 (⟨v, L, hL, rfl, hR⟩ | ⟨hn, rfl, hb2⟩)
  · obtain ⟨ao, cap, rfl, hg⟩ := hR.slice
    have hlen : L.length ≤ 400 := by
      have h1 := (scan_apart _ _ _ _ (Nat.le_refl _) hL).2.2
      have h2 := hsz.out
      rw [List.length_drop, bs_length] at h1
      omega
    have HR : Hid _ := hR
    have HL : Hid _ := hL
    have HG : Hid _ := hg
    clear hR hL hg HS1
    go_wp2_with fail
    refine (rscan_any t w2 (by have := hsz.out; omega)).mono ?_
    rintro e w3 (⟨v', L', hL', rfl, hR'⟩ | ⟨hn, _⟩)
    · rw [HL.out] at hL'
      obtain rfl := Option.some.inj hL'
      obtain ⟨ao', cap', rfl, hg'⟩ := hR'.slice
      have HR' : Hid _ := hR'
      have HR3 : Hid _ := HR.out.keep (hR'.below)
      have HG' : Hid _ := hg'
      have HB3 : Hid (Below w.heap.size w w3) := HB1.out.trans (HR3.out.below.mono HB1.out.size)
      clear hR' hg' HR hL' HL
      go_wp2_with fail
      go_loopw [8] (fun i wr => ∃ k : Nat, k ≤ L.length ∧ i = .int .i64 k ∧ Hid (Below w3.heap.size w3 wr)) (fun i _ => L.length - (intOf i).toNat)
      case atStart => exact ⟨0, Nat.zero_le _, rfl, Below.refl _ _⟩
      case round =>
        obtain ⟨k, hk, rfl, HW⟩ := hrel
        by_cases hlt : k < L.length
        · obtain ⟨g, rfl⟩ := HG.out (by omega)
          obtain ⟨g', rfl⟩ := HG'.out (by omega)
          have hltI : (k : Int) < (L.length : Int) := by omega
          obtain ⟨x, hx, c0, c1, c2⟩ := (HR3.out.keep HW.out).at k hlt
          obtain ⟨y, hy, d0, d1, d2⟩ := (HR'.out.keep HW.out).at k hlt
          have hxy : y = x := Option.some.inj (hy.symm.trans hx)
          subst hxy
          clear hx hy
          go_wp2_with fail
          go_quiet (fail)
          go_wp2_with fail
          go_roundw
          case rel => exact ⟨k + 1, by omega, by go_num, HW.out.os, HW.out.tape, HW.out.output, HW.out.size, HW.out.block⟩
          case measure => simp [intOf]; omega
        · have hke : k = L.length := by omega
          subst hke
          go_wp2_with fail
          go_ret
          exact ⟨rfl, HB3.out.trans (HW.out.mono HB3.out.size)⟩
    · rw [HL.out] at hn
      cases hn
  · have HN : Hid _ := hn
    have HB2 : Hid _ := HB1.out.trans (hb2.mono HB1.out.size)
    clear hn hb2 HS1
    go_wp2_with fail
    refine (rscan_any t w2 (by have := hsz.out; omega)).mono ?_
    rintro e w3 (⟨v', L', hL', rfl, hR'⟩ | ⟨hn, v', rfl, hb3⟩)
    · rw [HN.out] at hL'
      cases hL'
    · have HB3 : Hid _ := HB2.out.trans (hb3.mono HB2.out.size)
      clear hn hb3
      go_wp2_with fail
      go_ret
      exact ⟨rfl, HB3.out⟩

end Go.Proofs.YtpbfimjfplemhaaDoor
namespace Go.Proofs.YtpbfimjfplemhaaDoor
open Go.RowKit

theorem joinW_append : ∀ a b : List Wd, joinW (a ++ b) = joinW a ++ joinW b
  | [], b => rfl
  | (k, x, p) :: r, b => by
    show x ++ 32 :: joinW (r ++ b) = (x ++ 32 :: joinW r) ++ joinW b
    rw [joinW_append r b]
    simp
theorem joinW_take (L : List Wd) (i : Nat) (x : Wd) (h : L[i]? = some x) : joinW (L.take (i + 1)) = joinW (L.take i) ++ (x.2.1 ++ [32]) := by
  rw [List.take_add_one, h, joinW_append]
  rfl
theorem joinW_le (L : List Wd) (i : Nat) : (joinW (L.take i)).length ≤ (joinW L).length := by
  have : joinW L = joinW (L.take i) ++ joinW (L.drop i) := by rw [← joinW_append, List.take_append_drop]
  rw [this, List.length_append]
  omega
theorem reAt_length : ∀ (b : Nat) (L : List Wd), (reAt b L).length = L.length
  | _, [] => rfl
  | b, (k, x, p) :: r => by
    show (reAt (b + x.length + 1) r).length + 1 = r.length + 1
    rw [reAt_length]
theorem reAt_get : ∀ (L : List Wd) (b i : Nat) (x : Wd), L[i]? = some x → (reAt b L)[i]? = some (x.1, x.2.1, b + (joinW (L.take i)).length)
  | [], _, _, _, h => by simp at h
  | (k, y, p) :: r, b, 0, x, h => by
    simp at h
    subst h
    simp [reAt, joinW]
  | (k, y, p) :: r, b, i + 1, x, h => by
    have := reAt_get r (b + y.length + 1) i x (by simpa using h)
    simp only [reAt, List.getElem?_cons_succ, this, List.take_succ_cons, joinW, List.length_append, List.length_cons]
    rw [show b + y.length + 1 + (joinW (r.take i)).length = b + (y.length + ((joinW (r.take i)).length + 1)) by omega]

theorem tx_append (a b : List UInt8) : tx a ++ tx b = tx (a ++ b) := by
  apply ByteArray.ext
  simp [tx]

set_option maxRecDepth 4000 in
set_option maxHeartbeats 4000000 in
theorem apartLaw_any (s : ByteArray) (w : World) (h : Sg w) :
    Calls Tryd.prog 5 #[.string s] w fun e w' => e = .returned (.bool true) ∧ Below w.heap.size w w' := by
  have HS : Hid (Sg w) := h
  clear h
  go_enter Tryd.func5, Tryd.ntmps5
  go_wp2_with fail
  refine (begun_any w HS.out).mono ?_
  rintro e w1 ⟨rfl, hb1⟩
  have HB1 : Hid _ := hb1
  clear hb1
  go_wp2_with (go_at_call 7; refine (cutS_any _ 300 _).mono ?_; rintro e w' ⟨rfl, hw⟩; have hw' := hw.symm; subst hw'; clear hw)
  have hsz : Hid _ := cutS_size s 300
  generalize cutS s 300 = t at *
  refine (rscan_any t w1 (by have := hsz.out; omega)).mono ?_
  rintro e w2 (⟨v, L, hL, rfl, hR⟩ | ⟨hn, v, rfl, hb2⟩)
  · obtain ⟨ao, cap, rfl, hg⟩ := hR.slice
    obtain ⟨q1, q2, q3⟩ := scan_apart _ _ _ _ (Nat.le_refl _) hL
    rw [List.length_drop, bs_length] at q2 q3
    have q0 := hsz.out
    have hlen : L.length ≤ 300 := by omega
    have hjn : (joinW L).length ≤ 600 := by omega
    have HQ : Hid _ := q1 0
    have HR : Hid _ := hR
    have HG : Hid _ := hg
    have HB2 : Hid (Below w.heap.size w w2) := HB1.out.trans (hR.below.mono HB1.out.size)
    clear hR hL hg q1 q2 q3 q0 HB1 hsz
    go_wp2_with fail
    go_loopw [6, 7] (fun x i wr => ∃ k : Nat, k ≤ L.length ∧ i = .int .i64 k ∧ x = .string (tx (joinW (L.take k))) ∧ wr = w2) (fun _ i _ => L.length - (intOf i).toNat)
    case atStart => exact ⟨0, Nat.zero_le _, rfl, by simp [joinW, tx], rfl⟩
    case round =>
      obtain ⟨k, hk, rfl, rfl, hw⟩ := hrel
      have hw' := hw.symm
      subst hw'
      clear hw
      by_cases hlt : k < L.length
      · obtain ⟨g, rfl⟩ := HG.out (by omega)
        have hltI : (k : Int) < (L.length : Int) := by omega
        obtain ⟨x, hx, c0, c1, c2⟩ := HR.out.at k hlt
        have HJ : Hid _ := joinW_take L k x hx
        have z1 := joinW_le L k
        have z2 := joinW_le L (k + 1)
        rw [HJ.out, List.length_append, List.length_append] at z2
        have y1 : (tx (joinW (L.take k))).size ≤ 600 := by rw [tx_size]; omega
        have y2 : (tx x.2.1).size ≤ 600 := by rw [tx_size]; omega
        generalize joinW (L.take k) = J at *
        clear c0 c2 hx
        go_wp2_with fail
        exact ⟨⟨k + 1, by omega, by go_num, by rw [HJ.out, ← tx_append, ← tx_append]; rfl, trivial⟩, by simp [intOf]; omega⟩
      · have hke : k = L.length := by omega
        subst hke
        go_wp2_with fail
        refine (scan_any (tx (joinW L)) w2 (HS.out.below HB2.out) (by rw [tx_size]; omega)).mono ?_
        rintro e w3 (⟨v2, L2, hL2, rfl, hR2⟩ | ⟨hn, _⟩)
        · have e2 : scanAt (bs (tx (joinW L))) 0 = some (reAt 0 L) := HQ.out
          rw [e2] at hL2
          obtain rfl := Option.some.inj hL2
          obtain ⟨ao2, cap2, rfl, hg2⟩ := hR2.slice
          have HR2 : Hid _ := hR2
          have HG2 : Hid _ := hg2
          have HR3 : Hid _ := HR.out.keep (hR2.below)
          have HB3 : Hid (Below w.heap.size w w3) := HB2.out.trans (hR2.below.mono HB2.out.size)
          rw [reAt_length] at HG2
          have HLn : Hid ((reAt 0 L).length = L.length) := reAt_length 0 L
          clear hR2 hg2 hL2 e2 HQ HR HS HB2
          rw [HLn.out]
          go_wp2_with fail
          go_loopw [10, 11] (fun a i wr => ∃ k : Nat, k ≤ L.length ∧ i = .int .i64 k ∧ a = .int .i64 (((joinW (L.take k)).length : Nat) : Int) ∧ Hid (Below w3.heap.size w3 wr)) (fun _ i _ => L.length - (intOf i).toNat)
          case atStart => exact ⟨0, Nat.zero_le _, rfl, rfl, Below.refl _ _⟩
          case round =>
            obtain ⟨k, hk, rfl, rfl, HW⟩ := hrel
            by_cases hlt : k < L.length
            · obtain ⟨g, rfl⟩ := HG.out (by omega)
              obtain ⟨g2, rfl⟩ := HG2.out (by omega)
              have hltI : (k : Int) < (L.length : Int) := by omega
              obtain ⟨x, hx, c0, c1, c2⟩ := (HR3.out.keep HW.out).at k hlt
              obtain ⟨y, hy, d0, d1, d2⟩ := (HR2.out.keep HW.out).at k (by rw [HLn.out]; exact hlt)
              rw [reAt_get L 0 k x hx] at hy
              obtain rfl := Option.some.inj hy
              rw [Nat.zero_add] at d2
              have HJ : Hid _ := joinW_take L k x hx
              have z1 := joinW_le L k
              have z2 := joinW_le L (k + 1)
              rw [HJ.out, List.length_append, List.length_append] at z2
              have y2 : (tx x.2.1).size = x.2.1.length := tx_size _
              have HY : Hid _ := y2
              have y3 : (tx x.2.1).size ≤ 600 := by rw [tx_size]; omega
              have hjl : Hid ((joinW (L.take (k + 1))).length = (joinW (L.take k)).length + (x.2.1.length + 1)) := by rw [HJ.out, List.length_append, List.length_append]; rfl
              generalize joinW (L.take k) = J at *
              simp only [] at d0 d1 d2
              clear hx hy c2 HJ y2
              go_wp2_with fail
              go_quiet (fail)
              go_wp2_with fail
              exact ⟨⟨k + 1, by omega, by go_num, congrArg (Value.int .i64) (by rw [hjl.out, HY.out]; omega), HW.out.os, HW.out.tape, HW.out.output, HW.out.size, HW.out.block⟩, by simp [intOf]; omega⟩
            · have hke : k = L.length := by omega
              subst hke
              go_wp2_with fail
              go_ret
              exact ⟨rfl, HB3.out.trans (HW.out.mono HB3.out.size)⟩
        · have e2 : scanAt (bs (tx (joinW L))) 0 = some (reAt 0 L) := HQ.out
          rw [e2] at hn
          cases hn
  · have HB2 : Hid _ := HB1.out.trans (hb2.mono HB1.out.size)
    clear hn hb2
    go_wp2_with fail
    go_ret
    exact ⟨rfl, HB2.out⟩

end Go.Proofs.YtpbfimjfplemhaaDoor

/- The walks of Seal, firstBody, Open. The walk of Open. The walks of begun and of the law FrameBig. The walks of the document's Sum, four and Seal. -/
import Derived.Test.YtnbdkojdddplkaaDoorPart10
import Derived.Laws.MakeOwn
import Derived.Lib.SlBytesConst
import Derived.Laws.OwnMore
namespace Go.Proofs.YtnbdkojdddplkaaDoor.Fr
open Go.RowKit

set_option maxHeartbeats 400000 in
theorem seal_big (v : Value) (bs : List UInt8) (w : World) (h : Sl w v bs) (hl : 65536 < bs.length) :
    Calls Tryd.prog 56 #[v] w fun e w' => e = .returned (.slice none 0 0) ∧ w' = w := by
  obtain ⟨ao, cap, rfl, h1, h2⟩ := h.shape
  have hl' : (65536 : Int) < (bs.length : Int) := by omega
  go_enter Tryd.func56, Tryd.ntmps56
  go_wp2
  go_ret
  exact ⟨rfl, rfl⟩

set_option maxHeartbeats 1000000 in
theorem seal_any (v : Value) (bs : List UInt8) (w : World) (h : Sl w v bs) (ht : Tab w) (hl : bs.length ≤ 65536) :
    Calls Tryd.prog 56 #[v] w fun e w' => ∃ v', e = .returned v' ∧ w'.ownsRow w.heap.size 5 1 v' (sealL bs).length (cells8 (sealL bs)) ∧ Below w.heap.size w w' := by
  obtain ⟨i, hi, hz0, hz1, hz2⟩ := info_parts Tryd.info5
  obtain ⟨ao, cap, rfl, h1, h2⟩ := h.shape
  have hl' : ¬ (65536 : Int) < (bs.length : Int) := by omega
  obtain ⟨w0, hmake, hO0, hg0⟩ := run_make_own (P := Tryd.prog) w w.heap.size 33 5 i (.int .u8 0) 1 Tryd.underlying33 hi hz0 hz1 .i64 .i64 (8 + bs.length) (by rw [hz2]; omega) (by simp [maxLen]; omega) (Nat.le_refl _)
  have hmk : (Instr.makeSlice 33 (.int .i64 0) (.int .i64 (8 + (bs.length : Int)))).run Tryd.prog w = .ok (.slice (some ⟨w.heap.size, 0, none⟩) 0 (8 + bs.length)) w0 := by rw [← hmake]; congr 2
  have hb0 : Below w.heap.size w w0 := (Below.refl _ _).grown hg0 (Nat.le_refl _) (fun k hk => by cases hk)
  have hO0' : w0.ownsRow w.heap.size 5 1 (.slice (some ⟨w.heap.size, 0, none⟩) 0 (8 + bs.length)) ([] : List UInt8).length (cells8 []) := hO0
  have hS0 := h.below hb0
  have hT0 := ht.below hb0
  have hs0 := hb0.size
  clear hmake hO0 hg0
  go_enter Tryd.func56, Tryd.ntmps56
  go_wp2_with fail
  refine (appendWord_any w.heap.size _ [] bs.length _ hO0' hs0 (by simp)).mono ?_
  rintro e w1 ⟨v1, rfl, hO1, hg1⟩
  have hb1 : Below w.heap.size w0 w1 := (Below.refl _ _).grown hg1 hs0 (fun k hk => (hO0'.lt k hk).1)
  have hbw1 := hb0.trans hb1
  have hS1 := h.below hbw1
  have hT1 := ht.below hbw1
  have hs1 := hbw1.size
  clear hb1 hb0 hg1 hO0' hs0 hmk
  rw [List.nil_append] at hO1
  obtain ⟨ao1, cap1, rfl, _, _⟩ := (Sl.of_own hO1).shape
  go_wp2_with fail
  refine (sum_any _ _ _ (Sl.of_own hO1) hT1).mono ?_
  rintro e w' ⟨rfl, hw⟩
  have hw' := hw.symm
  subst hw'
  clear hw
  go_wp2_with fail
  refine (sumOn_any (crc (le4 bs.length)) _ _ _ (crc_lt _) hS1 hT1).mono ?_
  rintro e w' ⟨rfl, hw⟩
  have hw' := hw.symm
  subst hw'
  clear hw
  rw [sumOn_crc]
  go_wp2_with fail
  refine (appendWord_any w.heap.size _ (le4 bs.length) (crc (le4 bs.length ++ bs)) _ hO1 hs1 (by rw [le4_len]; omega)).mono ?_
  rintro e w2 ⟨v2, rfl, hO2, hg2⟩
  have hbw2 : Below w.heap.size w w2 := hbw1.grown hg2 hs1 (fun k hk => (hO1.lt k hk).1)
  have hS2 := h.below hbw2
  have hs2 := hbw2.size
  clear hg2 hO1 hbw1 hS1 hT1 hs1
  obtain ⟨ao2, cap2, rfl, _, _⟩ := (Sl.of_own hO2).shape
  go_wp2_with (at_builtin; refine wpList_append_sl _ rfl (.tmp 22) (.tmp 23) 33 rfl w.heap.size i Tryd.underlying33 hi hz0 hz1 hz2 _ _ _ bs rfl hO2 rfl hS2 (by rw [List.length_append, le4_len, le4_len]; omega) hs2 ?_)
  intro v' w3 hO3 hg3 _
  have hO3' : w3.ownsRow w.heap.size 5 1 v' (sealL bs).length (cells8 (sealL bs)) := by
    unfold sealL
    simpa only [List.length_append, List.append_assoc, Nat.add_assoc] using hO3
  have HO : Hid (w3.ownsRow w.heap.size 5 1 v' (sealL bs).length (cells8 (sealL bs))) := hO3'
  have HB : Hid (Below w.heap.size w w3) := hbw2.grown hg3 hs2 (fun k hk => (hO2.lt k hk).1)
  clear hO3 hO3' hg3 hO2 hS2 hbw2
  go_wp2
  go_ret
  exact ⟨_, rfl, HO.out, HB.out⟩

theorem Sl.drew {w : World} {v : Value} {bs : List UInt8} (h : Sl w v bs) (n : Nat) : Sl (w.drewN n) v bs := h
theorem Tab.drew {w : World} (h : Tab w) (n : Nat) : Tab (w.drewN n) := h

set_option maxHeartbeats 400000 in
theorem first_no8 (v : Value) (bs : List UInt8) (w : World) (h : Sl w v bs) (hl : bs.length < 8) :
    Calls Tryd.prog 68 #[v] w fun e w' => e = .returned (.tuple #[.slice none 0 0, .bool false]) ∧ ∃ m, w' = w.drewN m := by
  obtain ⟨ao, cap, rfl, h1, h2⟩ := h.shape
  have h2' : cap ≤ 9223372036854775807 := h2
  have hl' : (bs.length : Int) < 8 := by omega
  go_enter Tryd.func68, Tryd.ntmps68
  go_wp2
  go_ret2
  exact ⟨rfl, 0, rfl⟩

set_option maxHeartbeats 400000 in
theorem first_nofar (v : Value) (bs : List UInt8) (w : World) (h : Sl w v bs) (hl : ¬ bs.length < 8) (hf : 65536 < wordN bs ∨ bs.length < 8 + wordN bs) :
    Calls Tryd.prog 68 #[v] w fun e w' => e = .returned (.tuple #[.slice none 0 0, .bool false]) ∧ ∃ m, w' = w.drewN m := by
  have hw := word_any v bs w h (by omega)
  obtain ⟨ao, cap, rfl, h1, h2⟩ := h.shape
  have h2' : cap ≤ 9223372036854775807 := h2
  have hl' : ¬ (bs.length : Int) < 8 := by omega
  have hwl := wordN_lt bs
  by_cases hf1 : 65536 < wordN bs
  · have hf1' : (65536 : Int) < (wordN bs : Int) := by omega
    go_enter Tryd.func68, Tryd.ntmps68
    go_wp2_with (go_at_call 83; refine hw.mono ?_; rintro e w' ⟨rfl, m, rfl⟩)
    go_ret2
    exact ⟨rfl, m, rfl⟩
  · have hf1' : ¬ (65536 : Int) < (wordN bs : Int) := by omega
    have hf2' : (bs.length : Int) - 8 < (wordN bs : Int) := by omega
    go_enter Tryd.func68, Tryd.ntmps68
    go_wp2_with (go_at_call 83; refine hw.mono ?_; rintro e w' ⟨rfl, m, rfl⟩)
    go_ret2
    exact ⟨rfl, m, rfl⟩

theorem body_sl {w : World} {g off cap : Nat} {bs : List UInt8} (h : Sl w (.slice (some ⟨g, off, none⟩) bs.length cap) bs) (n : Nat) (hn : 8 + n ≤ bs.length) :
    (cap = 8 → Hid (Sl w (.slice (some ⟨g, off, none⟩) n 0) ((bs.drop 8).take n))) ∧ (cap ≠ 8 → Hid (Sl w (.slice (some ⟨g, off + 8, none⟩) n (cap - 8)) ((bs.drop 8).take n))) := by
  have hr := ((sl_rest h 8 (by omega)).1).take n (by omega)
  refine ⟨fun e => ?_, fun e => ?_⟩
  · rw [if_pos e, e] at hr; exact hr
  · rw [if_neg e] at hr; exact hr
theorem first_at {bs : List UInt8} (hl : ¬ bs.length < 8) (hf : ¬ (65536 < wordN bs ∨ bs.length < 8 + wordN bs)) : firstB bs = if wordN (bs.drop 4) = sumOn (crc (bs.take 4)) (bodyL bs) then some (bodyL bs) else none := by
  unfold firstB
  rw [if_neg hl, if_neg hf, sumOn_crc]

theorem hid_sl {w w1 : World} {m : Nat} {v : Value} {bs : List UInt8} (h : Hid (Sl w v bs)) (e : w1 = w.drewN m) : Hid (Sl w1 v bs) := by subst e; exact h
theorem hid_tab {w w1 : World} {m : Nat} (h : Hid (Tab w)) (e : w1 = w.drewN m) : Hid (Tab w1) := by subst e; exact h
theorem hid_eq {w w1 : World} (e : w1 = w) : Hid (w1 = w) := e

set_option maxHeartbeats 2000000 in
theorem first_cap8 (g off : Nat) (bs : List UInt8) (w : World) (h : Sl w (.slice (some ⟨g, off, none⟩) bs.length 8) bs) (ht : Tab w) (hl : ¬ bs.length < 8) (hf : ¬ (65536 < wordN bs ∨ bs.length < 8 + wordN bs)) :
    Calls Tryd.prog 68 #[.slice (some ⟨g, off, none⟩) bs.length 8] w fun e w' => ∃ v', e = .returned (.tuple #[v', .bool (firstB bs).isSome]) ∧ Sl w v' ((firstB bs).getD []) ∧ ∃ m, w' = w.drewN m := by
  rw [first_at hl hf]
  have HT : Hid (Tab w) := ht
  have hw := word_any _ bs w h (by omega)
  obtain ⟨_, _, e, h1, h2⟩ := h.shape
  simp only [Value.slice.injEq] at e
  obtain ⟨rfl, _, rfl⟩ := e
  have hl' : ¬ (bs.length : Int) < 8 := by omega
  have hf1' : ¬ (65536 : Int) < (wordN bs : Int) := by omega
  have hf2' : ¬ (bs.length : Int) - 8 < (wordN bs : Int) := by omega
  have HD4 : Hid (Sl w (.slice (some ⟨g, off + 4, none⟩) (bs.length - 4) (8 - 4)) (bs.drop 4)) := by
    have := (sl_rest h 4 (by omega)).1
    rw [if_neg (by omega)] at this
    exact this
  have HT4 : Hid (Sl w (.slice (some ⟨g, off, none⟩) 4 8) (bs.take 4)) := h.take 4 (by omega)
  have HB := (body_sl h (wordN bs) (by omega)).1 rfl
  have hd4 : 4 ≤ (bs.drop 4).length := by rw [List.length_drop]; omega
  have hl4 : (4 : Int) ≤ (bs.length : Int) := by omega
  clear h ht hf hl h2
  by_cases hc : wordN (bs.drop 4) = sumOn (crc (bs.take 4)) (bodyL bs)
  · have hcb : ((wordN (bs.drop 4) : Int) != (sumOn (crc (bs.take 4)) (bodyL bs) : Int)) = false := by simp [hc]
    rw [if_pos hc]
    clear hc
    go_enter Tryd.func68, Tryd.ntmps68
    go_wp2_with (go_at_call 83; refine hw.mono ?_; rintro e w1 ⟨rfl, m, hm⟩; have HT' := hid_tab HT hm; have HD' := hid_sl HD4 hm; have H4' := hid_sl HT4 hm; have HB' := hid_sl HB hm; have HM := hid_eq hm; clear hm)
    go_quiet (first
      | (go_at_call 83; exact Calls.quiet_of (word_any _ (bs.drop 4) _ (Sl.drew HD'.out _) hd4))
      | (go_at_call 77; exact Calls.quiet_of_same (sum_any _ (bs.take 4) _ (Sl.drew H4'.out _) (Tab.drew HT'.out _)))
      | (go_at_call 76; exact Calls.quiet_of_same (sumOn_any (crc (bs.take 4)) _ (bodyL bs) _ (crc_lt _) (Sl.drew HB'.out _) (Tab.drew HT'.out _))))
    go_wp2
    go_ret2
    exact ⟨_, rfl, by show Sl w (.slice _ (8 + wordN bs - 8) _) _; rw [Nat.add_sub_cancel_left]; exact HB.out, _, by rw [HM.out]; exact World.drewN_drewN _ _ _⟩
  · have hcb : ((wordN (bs.drop 4) : Int) != (sumOn (crc (bs.take 4)) (bodyL bs) : Int)) = true := by simp; omega
    rw [if_neg hc]
    clear hc
    go_enter Tryd.func68, Tryd.ntmps68
    go_wp2_with (go_at_call 83; refine hw.mono ?_; rintro e w1 ⟨rfl, m, hm⟩; have HT' := hid_tab HT hm; have HD' := hid_sl HD4 hm; have H4' := hid_sl HT4 hm; have HB' := hid_sl HB hm; have HM := hid_eq hm; clear hm)
    go_quiet (first
      | (go_at_call 83; exact Calls.quiet_of (word_any _ (bs.drop 4) _ (Sl.drew HD'.out _) hd4))
      | (go_at_call 77; exact Calls.quiet_of_same (sum_any _ (bs.take 4) _ (Sl.drew H4'.out _) (Tab.drew HT'.out _)))
      | (go_at_call 76; exact Calls.quiet_of_same (sumOn_any (crc (bs.take 4)) _ (bodyL bs) _ (crc_lt _) (Sl.drew HB'.out _) (Tab.drew HT'.out _))))
    go_wp2
    go_ret2
    exact ⟨_, rfl, Sl.nil _, _, by rw [HM.out]; exact World.drewN_drewN _ _ _⟩

set_option maxHeartbeats 2000000 in
theorem first_capn (g off cap : Nat) (bs : List UInt8) (w : World) (h : Sl w (.slice (some ⟨g, off, none⟩) bs.length cap) bs) (ht : Tab w) (hl : ¬ bs.length < 8) (hf : ¬ (65536 < wordN bs ∨ bs.length < 8 + wordN bs)) (hc8 : cap ≠ 8) :
    Calls Tryd.prog 68 #[.slice (some ⟨g, off, none⟩) bs.length cap] w fun e w' => ∃ v', e = .returned (.tuple #[v', .bool (firstB bs).isSome]) ∧ Sl w v' ((firstB bs).getD []) ∧ ∃ m, w' = w.drewN m := by
  rw [first_at hl hf]
  have HT : Hid (Tab w) := ht
  have hw := word_any _ bs w h (by omega)
  obtain ⟨_, _, e, h1, h2⟩ := h.shape
  simp only [Value.slice.injEq] at e
  obtain ⟨rfl, _, rfl⟩ := e
  have h2' : cap ≤ 9223372036854775807 := h2
  have hwc : (wordN bs : Int) + 8 ≤ (cap : Int) := by omega
  have hlc : (bs.length : Int) ≤ (cap : Int) := by omega
  have hc4 : ¬ cap = 4 := by omega
  have hc4' : (4 : Int) ≤ (cap : Int) := by omega
  have hl' : ¬ (bs.length : Int) < 8 := by omega
  have hf1' : ¬ (65536 : Int) < (wordN bs : Int) := by omega
  have hf2' : ¬ (bs.length : Int) - 8 < (wordN bs : Int) := by omega
  have HD4 : Hid (Sl w (.slice (some ⟨g, off + 4, none⟩) (bs.length - 4) (cap - 4)) (bs.drop 4)) := by
    have := (sl_rest h 4 (by omega)).1
    rw [if_neg (by omega)] at this
    exact this
  have HT4 : Hid (Sl w (.slice (some ⟨g, off, none⟩) 4 cap) (bs.take 4)) := h.take 4 (by omega)
  have HB := (body_sl h (wordN bs) (by omega)).2 hc8
  have hd4 : 4 ≤ (bs.drop 4).length := by rw [List.length_drop]; omega
  have hl4 : (4 : Int) ≤ (bs.length : Int) := by omega
  clear h ht hf hl h2
  by_cases hc : wordN (bs.drop 4) = sumOn (crc (bs.take 4)) (bodyL bs)
  · have hcb : ((wordN (bs.drop 4) : Int) != (sumOn (crc (bs.take 4)) (bodyL bs) : Int)) = false := by simp [hc]
    rw [if_pos hc]
    clear hc
    go_enter Tryd.func68, Tryd.ntmps68
    go_wp2_with (go_at_call 83; refine hw.mono ?_; rintro e w1 ⟨rfl, m, hm⟩; have HT' := hid_tab HT hm; have HD' := hid_sl HD4 hm; have H4' := hid_sl HT4 hm; have HB' := hid_sl HB hm; have HM := hid_eq hm; clear hm)
    go_quiet (first
      | (go_at_call 83; exact Calls.quiet_of (word_any _ (bs.drop 4) _ (Sl.drew HD'.out _) hd4))
      | (go_at_call 77; exact Calls.quiet_of_same (sum_any _ (bs.take 4) _ (Sl.drew H4'.out _) (Tab.drew HT'.out _)))
      | (go_at_call 76; exact Calls.quiet_of_same (sumOn_any (crc (bs.take 4)) _ (bodyL bs) _ (crc_lt _) (Sl.drew HB'.out _) (Tab.drew HT'.out _))))
    go_wp2
    go_ret2
    exact ⟨_, rfl, by show Sl w (.slice _ (8 + wordN bs - 8) _) _; rw [Nat.add_sub_cancel_left]; exact HB.out, _, by rw [HM.out]; exact World.drewN_drewN _ _ _⟩
  · have hcb : ((wordN (bs.drop 4) : Int) != (sumOn (crc (bs.take 4)) (bodyL bs) : Int)) = true := by simp; omega
    rw [if_neg hc]
    clear hc
    go_enter Tryd.func68, Tryd.ntmps68
    go_wp2_with (go_at_call 83; refine hw.mono ?_; rintro e w1 ⟨rfl, m, hm⟩; have HT' := hid_tab HT hm; have HD' := hid_sl HD4 hm; have H4' := hid_sl HT4 hm; have HB' := hid_sl HB hm; have HM := hid_eq hm; clear hm)
    go_quiet (first
      | (go_at_call 83; exact Calls.quiet_of (word_any _ (bs.drop 4) _ (Sl.drew HD'.out _) hd4))
      | (go_at_call 77; exact Calls.quiet_of_same (sum_any _ (bs.take 4) _ (Sl.drew H4'.out _) (Tab.drew HT'.out _)))
      | (go_at_call 76; exact Calls.quiet_of_same (sumOn_any (crc (bs.take 4)) _ (bodyL bs) _ (crc_lt _) (Sl.drew HB'.out _) (Tab.drew HT'.out _))))
    go_wp2
    go_ret2
    exact ⟨_, rfl, Sl.nil _, _, by rw [HM.out]; exact World.drewN_drewN _ _ _⟩


/-- What the seal at the beginning holds. -/
theorem first_any (v : Value) (bs : List UInt8) (w : World) (h : Sl w v bs) (ht : Tab w) :
    Calls Tryd.prog 68 #[v] w fun e w' => ∃ v', e = .returned (.tuple #[v', .bool (firstB bs).isSome]) ∧ Sl w v' ((firstB bs).getD []) ∧ ∃ m, w' = w.drewN m := by
  by_cases h8 : bs.length < 8
  · refine (first_no8 v bs w h h8).mono ?_
    rintro e w' ⟨rfl, m, hm⟩
    rw [first_short h8]
    exact ⟨_, rfl, Sl.nil _, m, hm⟩
  · by_cases hf : 65536 < wordN bs ∨ bs.length < 8 + wordN bs
    · refine (first_nofar v bs w h h8 hf).mono ?_
      rintro e w' ⟨rfl, m, hm⟩
      rw [first_far hf]
      exact ⟨_, rfl, Sl.nil _, m, hm⟩
    · obtain ⟨ao, cap, rfl, h1, h2⟩ := h.shape
      obtain ⟨g, off, rfl, _⟩ := h.cell (by omega)
      by_cases hc : cap = 8
      · subst hc
        exact first_cap8 g off bs w h ht h8 hf
      · exact first_capn g off cap bs w h ht h8 hf hc

theorem below_draw {w w' : World} {m : Nat} (e : w' = w.drewN m) : Below w.heap.size w w' := by
  subst e
  exact below_drewN (Below.refl _ _) _

end Go.Proofs.YtnbdkojdddplkaaDoor.Fr
namespace Go.Proofs.YtnbdkojdddplkaaDoor.Fr
open Go.RowKit

theorem own_lower {w : World} {base base' : Nat} {T : TypeId} {v : Value} {n : Nat} {xs : List Value} (h : w.ownsRow base T 1 v n xs) (hb : base' ≤ base) : w.ownsRow base' T 1 v n xs :=
  ⟨h.1, h.2.imp id fun ⟨g, cap, cur, e1, e2, e3⟩ => ⟨g, cap, cur, e1, Nat.le_trans hb e2, e3⟩⟩

theorem first_is (v : Value) (bs : List UInt8) (x : Option (List UInt8)) (b : Bool) (t : List UInt8) (w : World) (h : Sl w v bs) (ht : Tab w) (hx : firstB bs = x) (hb : x.isSome = b) (hy : x.getD [] = t) :
    Calls Tryd.prog 68 #[v] w fun e w' => ∃ v', e = .returned (.tuple #[v', .bool b]) ∧ Sl w' v' t ∧ Hid (Below w.heap.size w w') ∧ Hid (∃ m, w' = w.drewN m) := by
  refine (first_any v bs w h ht).mono ?_
  rintro e w' ⟨v', rfl, hS, m, hm⟩
  subst hx hb hy
  exact ⟨v', rfl, by subst hm; exact hS, below_draw hm, m, hm⟩

end Go.Proofs.YtnbdkojdddplkaaDoor.Fr
namespace Go.Proofs.YtnbdkojdddplkaaDoor.Fr
open Go.RowKit

theorem crc_nine : crc [49, 50, 51, 52, 53, 54, 55, 56, 57] = 3421780262 := by decide +kernel
theorem seal_x : (sealL [120]).length = 9 := rfl
theorem open_x : openL (sealL [120]) = some [120] := open_seal _ (by decide)

theorem made_zeros (n : Nat) : (madeCells (Value.int .u8 0).cells (n * 1)).toList = cells8 (List.replicate n 0) := by
  have hz : ∀ j : Nat, (Value.int .u8 0).cells[j % (Value.int .u8 0).cells.size]! = .int .u8 0 := by
    intro j
    have e : (Value.int .u8 0).cells = #[.int .u8 0] := rfl
    rw [e, show (#[Value.int .u8 0] : Array Value).size = 1 from rfl, Nat.mod_one]
    rfl
  unfold madeCells
  rw [show (fun x => (Value.int .u8 0).cells[x % (Value.int .u8 0).cells.size]!) = fun _ => Value.int .u8 0 from funext hz]
  simp [cells8, List.map_const']

end Go.Proofs.YtnbdkojdddplkaaDoor.Fr
namespace Go.Proofs.YtnbdkojdddplkaaDoor.Fr
open Go.RowKit

def iterB : Nat → Nat → Nat
  | 0, c => c
  | n + 1, c => iterB n (bit1 c)
theorem step_iter (c : Nat) (b : UInt8) : step c b = iterB 8 (c ^^^ b.toNat) := by
  unfold step
  rw [nib_bits, nib_bits]
  rfl
theorem bit1_odd (c : Nat) (h : c < 4294967296) (h1 : c % 2 = 1) : bits .xor .u32 ((c : Int) / 2) 3988292384 = (bit1 c : Int) := by
  unfold bit1
  rw [if_pos h1]
  have := u32_xor_nat (c / 2) 3988292384 (by omega) (by omega)
  rw [Int.natCast_ediv] at this
  exact this
theorem bit1_ev (c : Nat) (h1 : ¬ c % 2 = 1) : (c : Int) / 2 = (bit1 c : Int) := by
  unfold bit1
  rw [if_neg h1]
  omega
theorem xor_walk (cc : Nat) (bs : List UInt8) (k : Nat) (hc : cc < 4294967296) : bits .xor .u32 (cc : Int) (at8 bs k % 4294967296) = ((cc ^^^ (bs.getD k 0).toNat : Nat) : Int) := by
  have hb := byte_lt (bs.getD k 0)
  have e : at8 bs k % 4294967296 = ((bs.getD k 0).toNat : Int) := by unfold at8; omega
  rw [e]
  exact u32_xor_nat _ _ hc (by omega)

theorem own_below {w w' : World} {base e : Nat} {v : Value} {n : Nat} {xs : List Value} (h : w.ownsRow base e 1 v n xs) (hb : Below w.heap.size w w') : w'.ownsRow base e 1 v n xs := by
  obtain ⟨h1, h2⟩ := h
  refine ⟨h1, ?_⟩
  rcases h2 with h2 | ⟨g, cap, cur, e1, e2, e3, e4⟩
  · exact Or.inl h2
  · exact Or.inr ⟨g, cap, cur, e1, e2, by rw [hb.block g (lt_of_block e3)]; exact e3, e4⟩

end Go.Proofs.YtnbdkojdddplkaaDoor.Fr

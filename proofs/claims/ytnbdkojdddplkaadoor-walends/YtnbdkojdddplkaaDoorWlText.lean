/- What Text answers is new memory; the walk of unseal. -/
import Derived.Test.YtnbdkojdddplkaaDoorWlSeal
namespace Go.Proofs.YtnbdkojdddplkaaDoor.Bn
open Go.RowKit

/-- A slice that was made behind w. -/
def New (w w' : World) (v : Value) : Prop := ∀ a n c, v = .slice (some a) n c → w.heap.size ≤ a.block ∧ a.block < w'.heap.size
theorem New.nil (w w' : World) : New w w' (.slice none 0 0) := fun a n c e => by simp at e
theorem New.of_own {w w1 w2 : World} {v : Value} {n : Nat} {xs : List Value} (h : w2.ownsRow w1.heap.size 5 1 v n xs) (hs : w.heap.size ≤ w1.heap.size) : New w w2 v := fun a m c e => by
  subst e
  rcases h.2 with ⟨e, _⟩ | ⟨g, cap, cur, e, hb, hg, _⟩
  · simp at e
  · simp at e
    obtain ⟨rfl, _⟩ := e
    exact ⟨Nat.le_trans hs hb, (Array.getElem?_eq_some_iff.1 hg).1⟩
theorem New.up {w w2 w3 : World} {v : Value} (h : New w w2 v) (hs : w2.heap.size ≤ w3.heap.size) : New w w3 v := fun a m c e => ⟨(h a m c e).1, Nat.lt_of_lt_of_le (h a m c e).2 hs⟩

set_option maxHeartbeats 400000 in
theorem rtext2_none (B : Nat) (st : Option (List UInt8)) (n : Int) (w : World) (h : Rd w 127 B st) (hn : rNum st = (n, none)) :
    Calls Tryd.prog 71 #[.pointer (some ⟨B, 0, none⟩)] w fun e w' => ∃ v, e = .returned v ∧ Sl w' v [] ∧ New w w' v ∧ Rd w' 127 B none ∧ w.grownBy w' (some B) := by
  have HN : Hid (rNum st = (n, none)) := hn
  clear hn
  go_enter Tryd.func71, Tryd.ntmps71
  go_wp2_with (first
    | (go_at_call 70; refine (rnum_is B st none n _ h HN.out).mono ?_; rintro e w1 ⟨rfl, hr1, hg1⟩)
    | (go_at_call 72; refine (ok_any B none _ hr1).mono ?_; rintro e w' ⟨rfl, rfl⟩))
  go_ret
  exact ⟨_, rfl, Sl.nil _, New.nil _ _, hr1, hg1⟩

set_option maxHeartbeats 400000 in
theorem rtext2_bad (B : Nat) (st : Option (List UInt8)) (bs : List UInt8) (n : Int) (w : World) (h : Rd w 127 B st) (hn : rNum st = (n, some bs)) (hb : ¬ (0 ≤ n ∧ n ≤ bs.length)) :
    Calls Tryd.prog 71 #[.pointer (some ⟨B, 0, none⟩)] w fun e w' => ∃ v, e = .returned v ∧ Sl w' v [] ∧ New w w' v ∧ Rd w' 127 B none ∧ w.grownBy w' (some B) := by
  have HN : Hid (rNum st = (n, some bs)) := hn
  clear hn
  by_cases h0 : n < 0
  · clear hb
    go_enter Tryd.func71, Tryd.ntmps71
    go_wp2_with (first
      | (go_at_call 70; refine (rnum_is B st (some bs) n _ h HN.out).mono ?_; rintro e w1 ⟨rfl, hr1, hg1⟩)
      | (go_at_call 72; refine (ok_any B (some bs) _ hr1).mono ?_; rintro e w' ⟨rfl, rfl⟩)
      | (go_at_call 85; refine (fail_any B (some bs) _ hr1).mono ?_; rintro e w2 ⟨rfl, hr2, hg2⟩))
    go_ret
    exact ⟨_, rfl, Sl.nil _, New.nil _ _, hr2, hg1.trans hg2⟩
  · have h1 : (bs.length : Int) < n := by omega
    clear hb
    go_enter Tryd.func71, Tryd.ntmps71
    go_wp2_with (first
      | (go_at_call 70; refine (rnum_is B st (some bs) n _ h HN.out).mono ?_; rintro e w1 ⟨rfl, hr1, hg1⟩)
      | (go_at_call 72; refine (ok_any B (some bs) _ hr1).mono ?_; rintro e w' ⟨rfl, rfl⟩; have H1 := hr1; obtain ⟨v, hB, hv, _, _⟩ := hr1; obtain ⟨ao, cap, rfl, _, _⟩ := hv.shape; obtain ⟨c0, _, _, _⟩ := two_cells hB; clear hB hv)
      | (go_at_call 85; refine (fail_any B (some bs) _ H1).mono ?_; rintro e w2 ⟨rfl, hr2, hg2⟩))
    go_ret
    exact ⟨_, rfl, Sl.nil _, New.nil _ _, hr2, hg1.trans hg2⟩

set_option maxHeartbeats 400000 in
theorem rtext2_ok (B : Nat) (st : Option (List UInt8)) (bs : List UInt8) (m : Nat) (w : World) (h : Rd w 127 B st) (hn : rNum st = ((m : Int), some bs)) (hb : m ≤ bs.length) :
    Calls Tryd.prog 71 #[.pointer (some ⟨B, 0, none⟩)] w fun e w' => ∃ v, e = .returned v ∧ Sl w' v (bs.take m) ∧ New w w' v ∧ Rd w' 127 B (some (bs.drop m)) ∧ w.grownBy w' (some B) := by
  have HN : Hid (rNum st = ((m : Int), some bs)) := hn
  clear hn
  have hb' : (m : Int) ≤ bs.length := by omega
  go_enter Tryd.func71, Tryd.ntmps71
  go_wp2_with fail
  refine (rnum_is B st (some bs) m _ h HN.out).mono ?_
  rintro e w1 ⟨rfl, hr1, hg1⟩
  have H1 := hr1
  obtain ⟨v, hB, hv, hp, hlim⟩ := hr1
  have hlim' : bs.length ≤ 140737488355328 := hlim
  rcases hp with rfl | ⟨g, off, n', cap, rfl⟩
  · have e0 := hv.len
    simp only [Option.getD_some] at e0
    have e1 : bs = [] := List.eq_nil_of_length_eq_zero e0.symm
    subst e1
    have e2 : m = 0 := by simpa using hb
    subst e2
    obtain ⟨c0, c1, f0, f1⟩ := two_cells hB
    have HP : Hid (_) := Rd.put hB hv (Sl.nil _) (Or.inl rfl) (by simp)
    clear hv hlim hlim' hB e0 hb hb'
    go_wp2_with (first
      | (go_at_call 72; refine (ok_any B (some []) _ H1).mono ?_; rintro e w' ⟨rfl, rfl⟩)
      | (go_at_call 34; refine (clone_nil _).mono ?_; rintro e w2 ⟨rfl, rfl⟩))
    go_ret
    exact ⟨_, rfl, Sl.nil _, New.nil _ _, HP.out.1, hg1.trans HP.out.2⟩
  · have e0 := hv.len
    simp only [Option.getD_some] at e0
    subst e0
    have hcap : bs.length ≤ cap := by obtain ⟨_, _, e, h1, _⟩ := hv; simp only [Value.slice.injEq] at e; rw [e.2.2]; exact h1
    obtain ⟨c0, c1, f0, f1⟩ := two_cells hB
    have hBl := lt_of_block hB
    have HV : Hid (Sl w1 (.slice (some ⟨g, off, none⟩) bs.length cap) bs) := hv
    have HB : Hid (_) := hB
    clear hv hlim hB
    go_wp2_with (first
      | (go_at_call 72; refine (ok_any B (some bs) _ H1).mono ?_; rintro e w' ⟨rfl, rfl⟩)
      | (go_at_call 34; refine (clone_any _ (bs.take m) _ (HV.out.take m hb) (by rw [List.length_take]; omega)).mono ?_; rintro e w2 ⟨v', rfl, hown, hb2⟩; have hnw : Hid (New w w2 v') := New.of_own hown hg1.size; have c0' := (hb2.cell (p := ⟨B, 0, none⟩) hBl).trans c0; have f0' := (hb2.frozen (p := ⟨B, 0, none⟩) hBl).trans f0; obtain ⟨ao', cap', rfl, _, _⟩ := (Sl.of_own hown).shape))
    all_goals go_ret
    all_goals
      have hB2 := (hb2.block B hBl).trans HB.out
      have hv2 := HV.out.below hb2
      have HP := Rd.put hB2 hv2 (sl_rest hv2 m hb).1 (sl_rest hv2 m hb).2 (by rw [List.length_drop]; omega)
      have hlm : (bs.take m).length = m := by rw [List.length_take]; omega
      have HS := (Sl.of_own hown).rd (st := some bs) ⟨_, hB2, hv2, Or.inr ⟨_, _, _, _, rfl⟩, hlim'⟩ HP.2
    · rw [if_pos (by assumption), show cap - m = 0 by omega] at HP HS
      rw [hlm] at HS
      have hnw2 := hnw.out.up HP.2.size
      rw [hlm] at hnw2
      exact ⟨_, rfl, HS, hnw2, HP.1, (grown_below hg1 hb2).trans HP.2⟩
    · rw [if_neg (by assumption)] at HP HS
      rw [hlm] at HS
      have hnw2 := hnw.out.up HP.2.size
      rw [hlm] at hnw2
      exact ⟨_, rfl, HS, hnw2, HP.1, (grown_below hg1 hb2).trans HP.2⟩

theorem rtext2_any (B : Nat) (st : Option (List UInt8)) (w : World) (h : Rd w 127 B st) :
    Calls Tryd.prog 71 #[.pointer (some ⟨B, 0, none⟩)] w fun e w' => ∃ v, e = .returned v ∧ Sl w' v (rText st).1 ∧ New w w' v ∧ Rd w' 127 B (rText st).2 ∧ w.grownBy w' (some B) := by
  unfold rText
  cases hn : rNum st with
  | mk n st1 =>
    cases st1 with
    | none => exact rtext2_none B st n w h hn
    | some bs =>
      simp only [rCut]
      by_cases hb : 0 ≤ n ∧ n ≤ bs.length
      · rw [if_pos hb]
        obtain ⟨m, rfl⟩ := Int.eq_ofNat_of_zero_le hb.1
        exact rtext2_ok B st bs m w h hn (by omega)
      · rw [if_neg hb]
        exact rtext2_bad B st bs n w h hn hb

end Go.Proofs.YtnbdkojdddplkaaDoor.Bn

namespace Go.Proofs.YtnbdkojdddplkaaDoor.Wl
open Go.RowKit Dk

set_option maxHeartbeats 2000000 in
set_option maxRecDepth 20000 in
theorem unseal_any (v : Value) (body : List UInt8) (w : World) (hS : Sl w v body) (hl : body.length ≤ 1000000) :
    Calls Tryd.prog 53 #[v] w fun e w' => ∃ (n : Int) (ao : Option Addr) (L cap : Nat) (ok : Bool), e = .returned (.tuple #[.int .i64 n, .slice ao L cap, .bool ok]) ∧ Hid (Below w.heap.size w w' ∧ (match unsealL body with | none => ok = false | some (m, data) => ok = true ∧ n = m ∧ Sl w' (.slice ao L cap) data ∧ Bn.New w w' (.slice ao L cap))) := by
  obtain ⟨ao0, cap0, rfl, _, _⟩ := hS.shape
  have H1 : Hid (Calls Tryd.prog 69 #[.slice ao0 body.length cap0] w fun e w1 => ∃ B, e = .returned (.pointer (some ⟨B, 0, none⟩)) ∧ Hid (
      Calls Tryd.prog 70 #[.pointer (some ⟨B, 0, none⟩)] w1 fun e w2 => e = .returned (.int .i64 (Bn.rNum (some body)).1) ∧ Hid (
      Calls Tryd.prog 71 #[.pointer (some ⟨B, 0, none⟩)] w2 fun e w3 => ∃ ao cap, e = .returned (.slice ao (Bn.rText (Bn.rNum (some body)).2).1.length cap) ∧ Hid (Sl w3 (.slice ao (Bn.rText (Bn.rNum (some body)).2).1.length cap) (Bn.rText (Bn.rNum (some body)).2).1 ∧ Bn.New w w3 (.slice ao (Bn.rText (Bn.rNum (some body)).2).1.length cap) ∧ Below w.heap.size w w3) ∧
        Hid (Calls Tryd.prog 72 #[.pointer (some ⟨B, 0, none⟩)] w3 fun e w' => e = .returned (.bool (Bn.rText (Bn.rNum (some body)).2).2.isSome) ∧ w' = w3) ∧ Hid (Calls Tryd.prog 73 #[.pointer (some ⟨B, 0, none⟩)] w3 fun e w' => e = .returned (.int .i64 ((Bn.rText (Bn.rNum (some body)).2).2.getD []).length) ∧ w' = w3)))) := by
    refine (Bn.read_any _ body w hS (by omega)).mono ?_
    rintro e w1 ⟨B, rfl, hB, hR1, hb1⟩
    refine ⟨B, rfl, (Bn.rnum_any B (some body) w1 hR1).mono ?_⟩
    rintro e w2 ⟨rfl, hR2, hg2⟩
    have hb2 : Below w.heap.size w w2 := hb1.grown hg2 hb1.size (fun k hk => by simp at hk; omega)
    refine ⟨rfl, (Bn.rtext2_any B _ w2 hR2).mono ?_⟩
    rintro e w3 ⟨v3, rfl, hS3, hN3, hR3, hg3⟩
    have hb3 : Below w.heap.size w w3 := hb2.grown hg3 hb2.size (fun k hk => by simp at hk; omega)
    obtain ⟨ao, cap, rfl, _, _⟩ := Bn.Sl.shape hS3
    exact ⟨ao, cap, rfl, ⟨hS3, fun a n c e => ⟨Nat.le_trans hb2.size (hN3 a n c e).1, (hN3 a n c e).2⟩, hb3⟩, Bn.ok_any B _ w3 hR3, Bn.left_any B _ w3 hR3⟩
  unfold unsealL
  generalize (Bn.rNum (some body)).1 = n at *
  generalize (Bn.rText (Bn.rNum (some body)).2).1 = data at *
  generalize (Bn.rText (Bn.rNum (some body)).2).2 = st at *
  clear hS
  cases st with
  | none =>
    simp only [Option.isSome_none, Option.getD_none] at H1
    go_enter Tryd.func53, Tryd.ntmps53
    go_wp2_with (first
      | (go_at_call 69; refine Calls.mono H1.out ?_; rintro e w1 ⟨B, rfl, H2⟩)
      | (go_at_call 70; refine Calls.mono H2.out ?_; rintro e w2 ⟨rfl, H3⟩)
      | (go_at_call 71; refine Calls.mono H3.out ?_; rintro e w3 ⟨ao, cap, rfl, HX, H4, H5⟩)
      | (go_at_call 72; refine Calls.mono H4.out ?_; rintro e w' ⟨rfl, hw⟩; have hw' := hw.symm; subst hw'))
    refine bodyPost_ret (v := .tuple #[.int .i64 0, .slice none 0 0, .bool false]) (by simp [results, Tryd.results53, go_sem]) rfl ⟨0, none, 0, 0, false, rfl, HX.out.2.2, ?_⟩
    rfl
  | some rest =>
    simp only [Option.isSome_some, Option.getD_some] at H1 ⊢
    by_cases hr : rest.length = 0
    · by_cases hd : data.length ≤ 32768
      · rw [if_pos ⟨hr, hd⟩]
        have hr' : ¬ (0 : Int) < (rest.length : Int) := by omega
        have hd' : ¬ (32768 : Int) < (data.length : Int) := by omega
        clear hr hd
        generalize rest.length = rl at *
        go_enter Tryd.func53, Tryd.ntmps53
        go_wp2_with (first
          | (go_at_call 69; refine Calls.mono H1.out ?_; rintro e w1 ⟨B, rfl, H2⟩)
          | (go_at_call 70; refine Calls.mono H2.out ?_; rintro e w2 ⟨rfl, H3⟩)
          | (go_at_call 71; refine Calls.mono H3.out ?_; rintro e w3 ⟨ao, cap, rfl, HX, H4, H5⟩)
          | (go_at_call 72; refine Calls.mono H4.out ?_; rintro e w' ⟨rfl, hw⟩; have hw' := hw.symm; subst hw')
          | (go_at_call 73; refine Calls.mono H5.out ?_; rintro e w' ⟨rfl, hw⟩; have hw' := hw.symm; subst hw'))
        refine bodyPost_ret (v := .tuple #[.int .i64 n, .slice ao data.length cap, .bool true]) (by simp [results, Tryd.results53, go_sem]) rfl ⟨n, ao, data.length, cap, true, rfl, HX.out.2.2, ?_⟩
        exact ⟨rfl, rfl, HX.out.1, HX.out.2.1⟩
      · rw [if_neg (fun h => hd h.2)]
        have hr' : ¬ (0 : Int) < (rest.length : Int) := by omega
        have hd' : (32768 : Int) < (data.length : Int) := by omega
        clear hr hd
        generalize rest.length = rl at *
        go_enter Tryd.func53, Tryd.ntmps53
        go_wp2_with (first
          | (go_at_call 69; refine Calls.mono H1.out ?_; rintro e w1 ⟨B, rfl, H2⟩)
          | (go_at_call 70; refine Calls.mono H2.out ?_; rintro e w2 ⟨rfl, H3⟩)
          | (go_at_call 71; refine Calls.mono H3.out ?_; rintro e w3 ⟨ao, cap, rfl, HX, H4, H5⟩)
          | (go_at_call 72; refine Calls.mono H4.out ?_; rintro e w' ⟨rfl, hw⟩; have hw' := hw.symm; subst hw')
          | (go_at_call 73; refine Calls.mono H5.out ?_; rintro e w' ⟨rfl, hw⟩; have hw' := hw.symm; subst hw'))
        refine bodyPost_ret (v := .tuple #[.int .i64 0, .slice none 0 0, .bool false]) (by simp [results, Tryd.results53, go_sem]) rfl ⟨0, none, 0, 0, false, rfl, HX.out.2.2, ?_⟩
        rfl
    · rw [if_neg (fun h => hr h.1)]
      have hr' : (0 : Int) < (rest.length : Int) := by omega
      clear hr
      generalize rest.length = rl at *
      go_enter Tryd.func53, Tryd.ntmps53
      go_wp2_with (first
        | (go_at_call 69; refine Calls.mono H1.out ?_; rintro e w1 ⟨B, rfl, H2⟩)
        | (go_at_call 70; refine Calls.mono H2.out ?_; rintro e w2 ⟨rfl, H3⟩)
        | (go_at_call 71; refine Calls.mono H3.out ?_; rintro e w3 ⟨ao, cap, rfl, HX, H4, H5⟩)
        | (go_at_call 72; refine Calls.mono H4.out ?_; rintro e w' ⟨rfl, hw⟩; have hw' := hw.symm; subst hw')
        | (go_at_call 73; refine Calls.mono H5.out ?_; rintro e w' ⟨rfl, hw⟩; have hw' := hw.symm; subst hw'))
      refine bodyPost_ret (v := .tuple #[.int .i64 0, .slice none 0 0, .bool false]) (by simp [results, Tryd.results53, go_sem]) rfl ⟨0, none, 0, 0, false, rfl, HX.out.2.2, ?_⟩
      rfl
end Go.Proofs.YtnbdkojdddplkaaDoor.Wl

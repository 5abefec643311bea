/- The walks of the document's reader: Text and Flag. -/
import Derived.Test.YtebfpobdggephaaRefRead
namespace Go.Proofs.Ytebfpobdggephaa
open Go.RowKit

theorem rfnum_is (B : Nat) (st st1 : Option (List UInt8)) (n : Int) (w : World) (h : Rd w 45 B st) (hn : rNum st = (n, st1)) :
    Calls Try.prog 22 #[.pointer (some ⟨B, 0, none⟩)] w fun e w' => e = .returned (.int .i64 n) ∧ Rd w' 45 B st1 ∧ w.grownBy w' (some B) := by
  have := rfnum_any B st w h
  rw [hn] at this
  exact this

set_option maxHeartbeats 400000 in
theorem rftext_none (B : Nat) (st : Option (List UInt8)) (n : Int) (w : World) (h : Rd w 45 B st) (hn : rNum st = (n, none)) :
    Calls Try.prog 23 #[.pointer (some ⟨B, 0, none⟩)] w fun e w' => ∃ v, e = .returned v ∧ Sl w' v [] ∧ Rd w' 45 B none ∧ w.grownBy w' (some B) := by
  have HN : Hid (rNum st = (n, none)) := hn
  clear hn
  go_enter Try.func23, Try.ntmps23
  go_wp2_with fail
  refine (rfnum_is B st none n _ h HN.out).mono ?_
  rintro e w1 ⟨rfl, hr1, hg1⟩
  have H1 := hr1
  obtain ⟨v, hB, hv, _, _⟩ := hr1
  obtain ⟨ao, cap, rfl, _, _⟩ := hv.shape
  obtain ⟨c0, c1, f0, f1⟩ := two_cells hB
  clear hB hv
  go_wp2_with (go_at_call 30; refine (rffail_any B none _ H1).mono ?_; rintro e w2 ⟨rfl, hr2, hg2⟩)
  go_ret
  exact ⟨_, rfl, Sl.nil _, hr2, hg1.trans hg2⟩

set_option maxHeartbeats 400000 in
theorem rftext_bad (B : Nat) (st : Option (List UInt8)) (bs : List UInt8) (n : Int) (w : World) (h : Rd w 45 B st) (hn : rNum st = (n, some bs)) (hb : ¬ (0 ≤ n ∧ n ≤ bs.length)) :
    Calls Try.prog 23 #[.pointer (some ⟨B, 0, none⟩)] w fun e w' => ∃ v, e = .returned v ∧ Sl w' v [] ∧ Rd w' 45 B none ∧ w.grownBy w' (some B) := by
  have HN : Hid (rNum st = (n, some bs)) := hn
  clear hn
  go_enter Try.func23, Try.ntmps23
  go_wp2_with fail
  refine (rfnum_is B st (some bs) n _ h HN.out).mono ?_
  rintro e w1 ⟨rfl, hr1, hg1⟩
  have H1 := hr1
  obtain ⟨v, hB, hv, _, _⟩ := hr1
  obtain ⟨ao, cap, rfl, _, _⟩ := hv.shape
  obtain ⟨c0, c1, f0, f1⟩ := two_cells hB
  clear hB hv
  by_cases h0 : n < 0
  · clear hb
    go_wp2_with (go_at_call 30; refine (rffail_any B (some bs) _ H1).mono ?_; rintro e w2 ⟨rfl, hr2, hg2⟩)
    go_ret
    exact ⟨_, rfl, Sl.nil _, hr2, hg1.trans hg2⟩
  · have h1 : (bs.length : Int) < n := by omega
    clear hb
    go_wp2_with (go_at_call 30; refine (rffail_any B (some bs) _ H1).mono ?_; rintro e w2 ⟨rfl, hr2, hg2⟩)
    go_ret
    exact ⟨_, rfl, Sl.nil _, hr2, hg1.trans hg2⟩

set_option maxHeartbeats 400000 in
theorem rftext_ok (B : Nat) (st : Option (List UInt8)) (bs : List UInt8) (m : Nat) (w : World) (h : Rd w 45 B st) (hn : rNum st = ((m : Int), some bs)) (hb : m ≤ bs.length) :
    Calls Try.prog 23 #[.pointer (some ⟨B, 0, none⟩)] w fun e w' => ∃ v, e = .returned v ∧ Sl w' v (bs.take m) ∧ Rd w' 45 B (some (bs.drop m)) ∧ w.grownBy w' (some B) := by
  have HN : Hid (rNum st = ((m : Int), some bs)) := hn
  clear hn
  have hb' : (m : Int) ≤ bs.length := by omega
  go_enter Try.func23, Try.ntmps23
  go_wp2_with fail
  refine (rfnum_is B st (some bs) m _ h HN.out).mono ?_
  rintro e w1 ⟨rfl, hr1, hg1⟩
  obtain ⟨v, hB, hv, hp, hlim⟩ := hr1
  have hlim' : bs.length ≤ 140737488355328 := hlim
  rcases hp with rfl | ⟨g, off, n', cap, rfl⟩
  · have e0 := hv.len
    simp only [Option.getD_some] at e0
    have e1 : bs = [] := List.eq_nil_of_length_eq_zero e0.symm
    subst e1
    have e2 : m = 0 := by simpa using hb
    subst e2
    obtain ⟨c0, c1, f0, f1⟩ := two_cells hB
    have HP : Hid (_) := Rd.put hB hv (Sl.nil _) (Or.inl rfl) (by simp)
    clear hv hlim hlim' hB e0 hb hb'
    go_wp2
    go_ret
    exact ⟨_, rfl, Sl.nil _, HP.out.1, hg1.trans HP.out.2⟩
  · have e0 := hv.len
    simp only [Option.getD_some] at e0
    subst e0
    have hcap : bs.length ≤ cap := by obtain ⟨_, _, e, h1, _⟩ := hv; simp only [Value.slice.injEq] at e; rw [e.2.2]; exact h1
    obtain ⟨c0, c1, f0, f1⟩ := two_cells hB
    have HV : Hid (Sl w1 (.slice (some ⟨g, off, none⟩) bs.length cap) bs) := hv
    have HB : Hid (_) := hB
    clear hv hlim hB
    go_wp2
    all_goals go_ret
    all_goals
      have HP := Rd.put HB.out HV.out (sl_rest HV.out m hb).1 (sl_rest HV.out m hb).2 (by rw [List.length_drop]; omega)
      have HS := (HV.out.take m hb).rd (st := some bs) ⟨_, HB.out, HV.out, Or.inr ⟨_, _, _, _, rfl⟩, hlim'⟩ HP.2
    · have hcm : cap = m := by assumption
      subst hcm
      rw [if_pos rfl, Nat.sub_self] at HP HS
      exact ⟨_, rfl, HS, HP.1, hg1.trans HP.2⟩
    · rw [if_neg (by assumption)] at HP HS
      exact ⟨_, rfl, HS, HP.1, hg1.trans HP.2⟩

theorem rftext_any (B : Nat) (st : Option (List UInt8)) (w : World) (h : Rd w 45 B st) :
    Calls Try.prog 23 #[.pointer (some ⟨B, 0, none⟩)] w fun e w' => ∃ v, e = .returned v ∧ Sl w' v (rText st).1 ∧ Rd w' 45 B (rText st).2 ∧ w.grownBy w' (some B) := by
  unfold rText
  cases hn : rNum st with
  | mk n st1 =>
    cases st1 with
    | none => exact rftext_none B st n w h hn
    | some bs =>
      simp only [rCut]
      by_cases hb : 0 ≤ n ∧ n ≤ bs.length
      · rw [if_pos hb]
        obtain ⟨m, rfl⟩ := Int.eq_ofNat_of_zero_le hb.1
        exact rftext_ok B st bs m w h hn (by omega)
      · rw [if_neg hb]
        exact rftext_bad B st bs n w h hn hb

set_option maxHeartbeats 400000 in
theorem rfflag_empty (B : Nat) (st : Option (List UInt8)) (w : World) (h : Rd w 45 B st) (he : st.getD [] = []) :
    Calls Try.prog 24 #[.pointer (some ⟨B, 0, none⟩)] w fun e w' => e = .returned (.bool false) ∧ Rd w' 45 B none ∧ w.grownBy w' (some B) := by
  have H := h
  obtain ⟨v, hB, hv, _, _⟩ := h
  rw [he] at hv
  obtain ⟨ao, cap, rfl, _, _⟩ := hv.shape
  obtain ⟨c0, c1, f0, f1⟩ := two_cells hB
  clear hB hv he
  go_enter Try.func24, Try.ntmps24
  go_wp2_with (go_at_call 30; refine (rffail_any B st _ H).mono ?_; rintro e w' ⟨rfl, hr', hg'⟩)
  go_ret
  exact ⟨rfl, hr', hg'⟩

set_option maxHeartbeats 400000 in
theorem rfflag_cons (B : Nat) (b : UInt8) (r : List UInt8) (w : World) (h : Rd w 45 B (some (b :: r))) :
    Calls Try.prog 24 #[.pointer (some ⟨B, 0, none⟩)] w fun e w' => e = .returned (.bool (rFlag (some (b :: r))).1) ∧ Rd w' 45 B (rFlag (some (b :: r))).2 ∧ w.grownBy w' (some B) := by
  have H := h
  obtain ⟨v, hB, hv, hp, hlim⟩ := h
  have hlim' : (b :: r).length ≤ 140737488355328 := hlim
  obtain ⟨ao, cap, rfl, hc1, _⟩ := hv.shape
  obtain ⟨c0, c1, f0, f1⟩ := two_cells hB
  obtain ⟨g, off, rfl, hcell⟩ := hv.cell (by simp)
  have hx := hcell 0 (by simp)
  rw [Nat.add_zero, show at8 ((some (b :: r)).getD []) 0 = (b.toNat : Int) from rfl] at hx
  have hb2 : (b.toNat : Int) ≤ 255 := by have := UInt8.toNat_lt b; omega
  have hb0 : 0 ≤ (b.toNat : Int) := by omega
  have hcap : r.length + 1 ≤ cap := hc1
  have hne : (((r.length : Int) + 1) == 0) = false := by rw [beq_eq_false_iff_ne]; omega
  have HP : Hid (_) := Rd.put hB hv (sl_rest hv 1 (by simp)).1 (sl_rest hv 1 (by simp)).2 (by rw [List.length_drop]; omega)
  clear hB hv hcell hp hlim
  simp only [rFlag]
  by_cases h1 : 1 < b.toNat
  · rw [if_pos h1]
    have h1' : (1 : Int) < (b.toNat : Int) := by omega
    go_enter Try.func24, Try.ntmps24
    go_wp2_with (go_at_call 30; refine (rffail_any B (some (b :: r)) _ H).mono ?_; rintro e w' ⟨rfl, hr', hg'⟩)
    go_ret
    exact ⟨rfl, hr', hg'⟩
  · rw [if_neg h1]
    have h1' : ¬ (1 : Int) < (b.toNat : Int) := by omega
    have HE : Hid (((b.toNat : Int) == 1) = (b == 1)) := by
      show _ = _
      rw [Bool.eq_iff_iff, beq_iff_eq, beq_iff_eq, ← UInt8.toNat_inj]
      show _ ↔ b.toNat = 1
      omega
    go_enter Try.func24, Try.ntmps24
    go_wp2
    all_goals go_ret
    · have hp := HP.out
      rw [if_pos (by assumption), show cap - 1 = 0 by omega] at hp
      exact ⟨congrArg (fun x => Ending.returned (.bool x)) HE.out, hp⟩
    · have hp := HP.out
      rw [if_neg (by assumption)] at hp
      exact ⟨congrArg (fun x => Ending.returned (.bool x)) HE.out, hp⟩

theorem rfflag_any (B : Nat) (st : Option (List UInt8)) (w : World) (h : Rd w 45 B st) :
    Calls Try.prog 24 #[.pointer (some ⟨B, 0, none⟩)] w fun e w' => e = .returned (.bool (rFlag st).1) ∧ Rd w' 45 B (rFlag st).2 ∧ w.grownBy w' (some B) := by
  match st, h with
  | none, h => exact rfflag_empty B none w h rfl
  | some [], h => exact rfflag_empty B (some []) w h rfl
  | some (b :: r), h => exact rfflag_cons B b r w h
end Go.Proofs.Ytebfpobdggephaa

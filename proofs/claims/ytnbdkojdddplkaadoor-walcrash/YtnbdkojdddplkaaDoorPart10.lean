/- The walks of a reader: Num, and of bytes.Clone and Read. The walks of a reader: Text and Flag. The walks of a writer: Num, Text, Flag, Bytes. The walks of word, appendWord, bytes.Clone and Short. -/
import Derived.Test.YtnbdkojdddplkaaDoorPart09
import Derived.Test.YtnbdkojdddplkaaDoorPart01
import Derived.BigQuiet
namespace Go.Proofs.YtnbdkojdddplkaaDoor.Bn
open Go.RowKit

set_option maxHeartbeats 400000 in
theorem rnum_none (B : Nat) (w : World) (h : Rd w 127 B none) :
    Calls Tryd.prog 70 #[.pointer (some ⟨B, 0, none⟩)] w fun e w' => e = .returned (.int .i64 0) ∧ Rd w' 127 B none ∧ w.grownBy w' (some B) := by
  go_enter Tryd.func70, Tryd.ntmps70
  go_wp2_with (go_at_call 72; refine (ok_any B none _ h).mono ?_; rintro e w' ⟨rfl, rfl⟩)
  go_ret
  exact ⟨rfl, h, grown_refl _ _⟩

set_option maxHeartbeats 400000 in
theorem rnum_bad (B : Nat) (bs : List UInt8) (w : World) (h : Rd w 127 B (some bs)) (hn : num bs = none) :
    Calls Tryd.prog 70 #[.pointer (some ⟨B, 0, none⟩)] w fun e w' => e = .returned (.int .i64 0) ∧ Rd w' 127 B none ∧ w.grownBy w' (some B) := by
  have H := h
  obtain ⟨v, hB, hv, hp, hlim⟩ := h
  obtain ⟨c0, c1, f0, f1⟩ := two_cells hB
  obtain ⟨ao, cap, rfl, hc1, hc2⟩ := hv.shape
  have HN : Hid (num bs = none) := hn
  have HV : Hid (Sl w (.slice ao (Option.getD (some bs) []).length cap) ((some bs).getD [])) := hv
  clear hn hv hB hp hlim
  go_enter Tryd.func70, Tryd.ntmps70
  go_wp2_with (first
    | (go_at_call 72; refine (ok_any B (some bs) _ H).mono ?_; rintro e w' ⟨rfl, rfl⟩)
    | (go_at_call 84; refine (groups_none _ bs _ HV.out HN.out).mono ?_; rintro e w' ⟨rfl, rfl⟩)
    | (go_at_call 85; refine (fail_any B (some bs) _ H).mono ?_; rintro e w' ⟨rfl, hr', hg'⟩))
  go_ret
  exact ⟨rfl, hr', hg'⟩

set_option maxHeartbeats 400000 in
theorem rnum_ok (B : Nat) (bs : List UInt8) (w : World) (h : Rd w 127 B (some bs)) (u k : Nat) (hn : num bs = some (u, k)) :
    Calls Tryd.prog 70 #[.pointer (some ⟨B, 0, none⟩)] w fun e w' => e = .returned (.int .i64 (zag u)) ∧ Rd w' 127 B (some (bs.drop k)) ∧ w.grownBy w' (some B) := by
  obtain ⟨hu, hk0, hkl, hk10⟩ := num_bds hn
  have H := h
  obtain ⟨v, hB, hv, hp, hlim⟩ := h
  obtain ⟨c0, c1, f0, f1⟩ := two_cells hB
  obtain ⟨ao, cap, rfl, hc1, hc2⟩ := hv.shape
  have hkl' : k ≤ (Option.getD (some bs) []).length := hkl
  obtain ⟨g, off, rfl, _⟩ := hv.cell (by omega)
  have HN : Hid (num bs = some (u, k)) := hn
  have HP : Hid (_) := Rd.put hB hv (sl_rest hv k hkl').1 (sl_rest hv k hkl').2 (by rw [List.length_drop]; omega)
  have HV : Hid (Sl w (.slice (some ⟨g, off, none⟩) (Option.getD (some bs) []).length cap) ((some bs).getD [])) := hv
  have hkc : (k : Int) ≤ (bs.length : Int) := by omega
  have hne : ((k : Int) == 0) = false := by rw [beq_eq_false_iff_ne]; omega
  have hcm : (bs.length : Int) ≤ cap := by have : bs.length ≤ cap := hc1; omega
  clear hn hv hB hkl' hp hlim
  go_enter Tryd.func70, Tryd.ntmps70
  go_wp2_with (first
    | (go_at_call 72; refine (ok_any B (some bs) _ H).mono ?_; rintro e w' ⟨rfl, rfl⟩)
    | (go_at_call 84; refine (groups_ok _ bs _ HV.out u k HN.out).mono ?_; rintro e w' ⟨rfl, rfl⟩)
    | (go_at_call 86; refine (unfold_any u _ (by omega)).mono ?_; rintro e w' ⟨rfl, rfl⟩))
  all_goals go_ret
  · have hp := HP.out
    rw [if_pos (by assumption), show cap - k = 0 by omega] at hp
    exact ⟨rfl, hp⟩
  · have hp := HP.out
    rw [if_neg (by assumption)] at hp
    exact ⟨rfl, hp⟩

theorem rnum_any (B : Nat) (st : Option (List UInt8)) (w : World) (h : Rd w 127 B st) :
    Calls Tryd.prog 70 #[.pointer (some ⟨B, 0, none⟩)] w fun e w' => e = .returned (.int .i64 (rNum st).1) ∧ Rd w' 127 B (rNum st).2 ∧ w.grownBy w' (some B) := by
  cases st with
  | none => exact rnum_none B w h
  | some bs =>
    cases hn : num bs with
    | none => simp only [rNum, hn]; exact rnum_bad B bs w h hn
    | some uk => obtain ⟨u, k⟩ := uk; simp only [rNum, hn]; exact rnum_ok B bs w h u k hn

set_option maxHeartbeats 400000 in
theorem rnum_nil (w : World) :
    Calls Tryd.prog 70 #[.pointer none] w fun e w' => e = .returned (.int .i64 0) ∧ w' = w := by
  go_enter Tryd.func70, Tryd.ntmps70
  go_wp2_with (go_at_call 72; refine (ok_nil _).mono ?_; rintro e w' ⟨rfl, rfl⟩)
  go_ret
  exact ⟨rfl, rfl⟩

/- bytes.Clone -/
theorem Tryd.info5 : (Tryd.prog.info? 5).map (fun i => (i.zero, i.size, i.bytes)) = some (some (.int .u8 0), 1, 1) := by kernel_rfl

set_option maxHeartbeats 400000 in
theorem clone_nil (w : World) :
    Calls Tryd.prog 34 #[.slice none 0 0] w fun e w' => e = .returned (.slice none 0 0) ∧ w' = w := by
  have he := fun w => Lib.run_eql_slice_nil (P := Tryd.prog) w 33 5 none 0 0 0 0 Tryd.underlying33
  go_enter Tryd.func34, Tryd.ntmps34
  go_wp2
  go_ret
  exact ⟨rfl, rfl⟩

set_option maxHeartbeats 400000 in
theorem clone_some (a : Addr) (cap : Nat) (bs : List UInt8) (w : World) (h : Sl w (.slice (some a) bs.length cap) bs) (hl : bs.length ≤ 140737488355328) :
    Calls Tryd.prog 34 #[.slice (some a) bs.length cap] w fun e w' => ∃ v', e = .returned v' ∧ w'.ownsRow w.heap.size 5 1 v' bs.length (cells8 bs) ∧ Below w.heap.size w w' := by
  obtain ⟨i, hi, hz0, hz1, hz2⟩ := info_parts Tryd.info5
  have hnews : ∀ (o : Obj), ∀ j u, (cells8 bs)[j]? = some u → (w.alloc o).cell? (a.add j) = some u := by
    intro o j u hj
    have hjl : j < bs.length := by have := (List.getElem?_eq_some_iff.1 hj).1; simpa [cells8_len] using this
    obtain ⟨g, off, ha, hc⟩ := (h.alloc o).cell (by omega)
    simp only [Option.some.injEq] at ha
    subst ha
    rw [Addr.add_lit, hc j hjl, ← hj, cells8_at _ _ hjl]
  have he := fun w => Lib.run_eql_slice_nil (P := Tryd.prog) w 33 5 (some a) bs.length cap 0 0 Tryd.underlying33
  go_enter Tryd.func34, Tryd.ntmps34
  go_wp2_with (at_builtin; refine wpList_append_own_at _ rfl (.tmp 5) (.tmp 6) 33 rfl w.heap.size 5 i (.int .u8 0) 1 1 Tryd.underlying33 hi hz0 hz1 hz2 rfl (by decide) _ 0 [] rfl (World.ownsRow_made w #[] 0 (Nat.le_refl _) (by simp [maxLen]) rfl) a bs.length cap (cells8 bs) rfl (by rw [cells8_len, Nat.mul_one]) (hnews _) (cells8_one bs) (by simp only [maxLen]; omega) (by omega) (by simp) ?_)
  intro v' w1 hown hgrow _ hat
  clear hnews he
  have hfin : w1.ownsRow w.heap.size 5 1 v' bs.length (cells8 bs) ∧ Below w.heap.size w w1 :=
    ⟨by simpa using hown, ((Below.refl _ _).alloc (Nat.le_refl _) _).grown hgrow (by simp) (fun k hk => by simp [Value.ownBlock] at hk; omega)⟩
  clear hown hgrow hat
  go_wp2
  go_ret
  exact ⟨_, rfl, hfin⟩

/-- A copy: nil of nil, else a row of its own. -/
theorem clone_any (v : Value) (bs : List UInt8) (w : World) (h : Sl w v bs) (hl : bs.length ≤ 140737488355328) :
    Calls Tryd.prog 34 #[v] w fun e w' => ∃ v', e = .returned v' ∧ w'.ownsRow w.heap.size 5 1 v' bs.length (cells8 bs) ∧ Below w.heap.size w w' := by
  obtain ⟨ao, cap, rfl, h1, h2, h3, h4⟩ := id h
  cases ao with
  | none =>
    have hc := h3 rfl
    have e : bs = [] := List.eq_nil_of_length_eq_zero (by omega)
    subst e
    subst hc
    exact (clone_nil w).mono fun _ _ ⟨he, hw⟩ => ⟨_, he, by subst hw; exact World.ownsRow_nil _ _ _ _, by subst hw; exact Below.refl _ _⟩
  | some a => exact clone_some a cap bs w h hl

set_option maxHeartbeats 400000 in
theorem read_any (v : Value) (bs : List UInt8) (w : World) (h : Sl w v bs) (hl : bs.length ≤ 140737488355328) :
    Calls Tryd.prog 69 #[v] w fun e w' => ∃ B, e = .returned (.pointer (some ⟨B, 0, none⟩)) ∧ w.heap.size ≤ B ∧ Rd w' 127 B (some bs) ∧ Below w.heap.size w w' := by
  obtain ⟨ao, cap, rfl, h1, h2⟩ := h.shape
  go_enter Tryd.func69, Tryd.ntmps69
  go_wp2_with (go_at_call 34; refine (clone_any _ bs _ h hl).mono ?_; rintro e w' ⟨v', rfl, hown, hb⟩; obtain ⟨ao', cap', rfl, hc1', hc2'⟩ := (Sl.of_own hown).shape)
  go_ret
  refine ⟨w'.heap.size, rfl, hb.size, ⟨_, heap_alloc_new _ _, (Sl.of_own hown).alloc _, Pl.of_own hown, hl⟩, hb.alloc hb.size _⟩
end Go.Proofs.YtnbdkojdddplkaaDoor.Bn
namespace Go.Proofs.YtnbdkojdddplkaaDoor.Bn
open Go.RowKit

theorem rnum_is (B : Nat) (st st1 : Option (List UInt8)) (n : Int) (w : World) (h : Rd w 127 B st) (hn : rNum st = (n, st1)) :
    Calls Tryd.prog 70 #[.pointer (some ⟨B, 0, none⟩)] w fun e w' => e = .returned (.int .i64 n) ∧ Rd w' 127 B st1 ∧ w.grownBy w' (some B) := by
  have := rnum_any B st w h
  rw [hn] at this
  exact this

theorem grown_trans {a b c : World} {row : Option Nat} (h : a.grownBy b row) (k : b.grownBy c row) : a.grownBy c row := h.trans k
theorem grown_below {a b c : World} {row : Option Nat} (h : a.grownBy b row) (k : Below b.heap.size b c) : a.grownBy c row :=
  ⟨k.os.trans h.os, k.tape.trans h.tape, k.output.trans h.output, Nat.le_trans h.size k.size, fun i hi hne => (k.block i (Nat.lt_of_lt_of_le hi h.size)).trans (h.block i hi hne)⟩

set_option maxHeartbeats 400000 in
theorem rtext_none (B : Nat) (st : Option (List UInt8)) (n : Int) (w : World) (h : Rd w 127 B st) (hn : rNum st = (n, none)) :
    Calls Tryd.prog 71 #[.pointer (some ⟨B, 0, none⟩)] w fun e w' => ∃ v, e = .returned v ∧ Sl w' v [] ∧ Rd w' 127 B none ∧ w.grownBy w' (some B) := by
  have HN : Hid (rNum st = (n, none)) := hn
  clear hn
  go_enter Tryd.func71, Tryd.ntmps71
  go_wp2_with (first
    | (go_at_call 70; refine (rnum_is B st none n _ h HN.out).mono ?_; rintro e w1 ⟨rfl, hr1, hg1⟩)
    | (go_at_call 72; refine (ok_any B none _ hr1).mono ?_; rintro e w' ⟨rfl, rfl⟩))
  go_ret
  exact ⟨_, rfl, Sl.nil _, hr1, hg1⟩

set_option maxHeartbeats 400000 in
theorem rtext_bad (B : Nat) (st : Option (List UInt8)) (bs : List UInt8) (n : Int) (w : World) (h : Rd w 127 B st) (hn : rNum st = (n, some bs)) (hb : ¬ (0 ≤ n ∧ n ≤ bs.length)) :
    Calls Tryd.prog 71 #[.pointer (some ⟨B, 0, none⟩)] w fun e w' => ∃ v, e = .returned v ∧ Sl w' v [] ∧ Rd w' 127 B none ∧ w.grownBy w' (some B) := by
  have HN : Hid (rNum st = (n, some bs)) := hn
  clear hn
  by_cases h0 : n < 0
  · clear hb
    go_enter Tryd.func71, Tryd.ntmps71
    go_wp2_with (first
      | (go_at_call 70; refine (rnum_is B st (some bs) n _ h HN.out).mono ?_; rintro e w1 ⟨rfl, hr1, hg1⟩)
      | (go_at_call 72; refine (ok_any B (some bs) _ hr1).mono ?_; rintro e w' ⟨rfl, rfl⟩)
      | (go_at_call 85; refine (fail_any B (some bs) _ hr1).mono ?_; rintro e w2 ⟨rfl, hr2, hg2⟩))
    go_ret
    exact ⟨_, rfl, Sl.nil _, hr2, hg1.trans hg2⟩
  · have h1 : (bs.length : Int) < n := by omega
    clear hb
    go_enter Tryd.func71, Tryd.ntmps71
    go_wp2_with (first
      | (go_at_call 70; refine (rnum_is B st (some bs) n _ h HN.out).mono ?_; rintro e w1 ⟨rfl, hr1, hg1⟩)
      | (go_at_call 72; refine (ok_any B (some bs) _ hr1).mono ?_; rintro e w' ⟨rfl, rfl⟩; have H1 := hr1; obtain ⟨v, hB, hv, _, _⟩ := hr1; obtain ⟨ao, cap, rfl, _, _⟩ := hv.shape; obtain ⟨c0, _, _, _⟩ := two_cells hB; clear hB hv)
      | (go_at_call 85; refine (fail_any B (some bs) _ H1).mono ?_; rintro e w2 ⟨rfl, hr2, hg2⟩))
    go_ret
    exact ⟨_, rfl, Sl.nil _, hr2, hg1.trans hg2⟩

set_option maxHeartbeats 400000 in
theorem rtext_ok (B : Nat) (st : Option (List UInt8)) (bs : List UInt8) (m : Nat) (w : World) (h : Rd w 127 B st) (hn : rNum st = ((m : Int), some bs)) (hb : m ≤ bs.length) :
    Calls Tryd.prog 71 #[.pointer (some ⟨B, 0, none⟩)] w fun e w' => ∃ v, e = .returned v ∧ Sl w' v (bs.take m) ∧ Rd w' 127 B (some (bs.drop m)) ∧ w.grownBy w' (some B) := by
  have HN : Hid (rNum st = ((m : Int), some bs)) := hn
  clear hn
  have hb' : (m : Int) ≤ bs.length := by omega
  go_enter Tryd.func71, Tryd.ntmps71
  go_wp2_with fail
  refine (rnum_is B st (some bs) m _ h HN.out).mono ?_
  rintro e w1 ⟨rfl, hr1, hg1⟩
  have H1 := hr1
  obtain ⟨v, hB, hv, hp, hlim⟩ := hr1
  have hlim' : bs.length ≤ 140737488355328 := hlim
  rcases hp with rfl | ⟨g, off, n', cap, rfl⟩
  · have e0 := hv.len
    simp only [Option.getD_some] at e0
    have e1 : bs = [] := List.eq_nil_of_length_eq_zero e0.symm
    subst e1
    have e2 : m = 0 := by simpa using hb
    subst e2
    obtain ⟨c0, c1, f0, f1⟩ := two_cells hB
    have HP : Hid (_) := Rd.put hB hv (Sl.nil _) (Or.inl rfl) (by simp)
    clear hv hlim hlim' hB e0 hb hb'
    go_wp2_with (first
      | (go_at_call 72; refine (ok_any B (some []) _ H1).mono ?_; rintro e w' ⟨rfl, rfl⟩)
      | (go_at_call 34; refine (clone_nil _).mono ?_; rintro e w2 ⟨rfl, rfl⟩))
    go_ret
    exact ⟨_, rfl, Sl.nil _, HP.out.1, hg1.trans HP.out.2⟩
  · have e0 := hv.len
    simp only [Option.getD_some] at e0
    subst e0
    have hcap : bs.length ≤ cap := by obtain ⟨_, _, e, h1, _⟩ := hv; simp only [Value.slice.injEq] at e; rw [e.2.2]; exact h1
    obtain ⟨c0, c1, f0, f1⟩ := two_cells hB
    have hBl := lt_of_block hB
    have HV : Hid (Sl w1 (.slice (some ⟨g, off, none⟩) bs.length cap) bs) := hv
    have HB : Hid (_) := hB
    clear hv hlim hB
    go_wp2_with (first
      | (go_at_call 72; refine (ok_any B (some bs) _ H1).mono ?_; rintro e w' ⟨rfl, rfl⟩)
      | (go_at_call 34; refine (clone_any _ (bs.take m) _ (HV.out.take m hb) (by rw [List.length_take]; omega)).mono ?_; rintro e w2 ⟨v', rfl, hown, hb2⟩; have c0' := (hb2.cell (p := ⟨B, 0, none⟩) hBl).trans c0; have f0' := (hb2.frozen (p := ⟨B, 0, none⟩) hBl).trans f0; obtain ⟨ao', cap', rfl, _, _⟩ := (Sl.of_own hown).shape))
    all_goals go_ret
    all_goals
      have hB2 := (hb2.block B hBl).trans HB.out
      have hv2 := HV.out.below hb2
      have HP := Rd.put hB2 hv2 (sl_rest hv2 m hb).1 (sl_rest hv2 m hb).2 (by rw [List.length_drop]; omega)
      have hlm : (bs.take m).length = m := by rw [List.length_take]; omega
      have HS := (Sl.of_own hown).rd (st := some bs) ⟨_, hB2, hv2, Or.inr ⟨_, _, _, _, rfl⟩, hlim'⟩ HP.2
    · rw [if_pos (by assumption), show cap - m = 0 by omega] at HP HS
      rw [hlm] at HS
      exact ⟨_, rfl, HS, HP.1, (grown_below hg1 hb2).trans HP.2⟩
    · rw [if_neg (by assumption)] at HP HS
      rw [hlm] at HS
      exact ⟨_, rfl, HS, HP.1, (grown_below hg1 hb2).trans HP.2⟩

theorem rtext_any (B : Nat) (st : Option (List UInt8)) (w : World) (h : Rd w 127 B st) :
    Calls Tryd.prog 71 #[.pointer (some ⟨B, 0, none⟩)] w fun e w' => ∃ v, e = .returned v ∧ Sl w' v (rText st).1 ∧ Rd w' 127 B (rText st).2 ∧ w.grownBy w' (some B) := by
  unfold rText
  cases hn : rNum st with
  | mk n st1 =>
    cases st1 with
    | none => exact rtext_none B st n w h hn
    | some bs =>
      simp only [rCut]
      by_cases hb : 0 ≤ n ∧ n ≤ bs.length
      · rw [if_pos hb]
        obtain ⟨m, rfl⟩ := Int.eq_ofNat_of_zero_le hb.1
        exact rtext_ok B st bs m w h hn (by omega)
      · rw [if_neg hb]
        exact rtext_bad B st bs n w h hn hb

set_option maxHeartbeats 400000 in
theorem rtext_nil (w : World) :
    Calls Tryd.prog 71 #[.pointer none] w fun e w' => e = .returned (.slice none 0 0) ∧ w' = w := by
  go_enter Tryd.func71, Tryd.ntmps71
  go_wp2_with (first
    | (go_at_call 70; refine (rnum_nil _).mono ?_; rintro e w' ⟨rfl, rfl⟩)
    | (go_at_call 72; refine (ok_nil _).mono ?_; rintro e w' ⟨rfl, rfl⟩))
  go_ret
  exact ⟨rfl, rfl⟩

end Go.Proofs.YtnbdkojdddplkaaDoor.Bn
namespace Go.Proofs.YtnbdkojdddplkaaDoor.Bn
open Go.RowKit

theorem one_cell {w : World} {B T : Nat} {v : Value} (h : w.heap[B]? = some (.cells #[v] T (0, 0))) : w.cell? ⟨B, 0, none⟩ = some v ∧ w.frozen? ⟨B, 0, none⟩ = false := ⟨cell_of_one h, free_of_one h⟩

theorem byte_more (uu : Nat) (h : uu < 18446744073709551616) : bits .or .u8 (bits .and .u64 (uu : Int) 127 % 256) 128 = ((UInt8.ofNat (uu % 128 + 128)).toNat : Int) := by
  have h1 : bits .and .u64 (uu : Int) 127 = ((uu % 128 : Nat) : Int) := by
    have := u64_and_nat uu 127 h (by omega)
    rw [nat_mask7] at this
    exact this
  rw [h1, toNat_lo (by omega), Int.emod_eq_of_lt (by omega) (by omega), u8_or128_right _ (by omega) (by omega)]
  omega
theorem byte_last (uu : Nat) (h : uu < 128) : (uu : Int) = ((UInt8.ofNat uu).toNat : Int) := by
  rw [toNat_lo (by omega)]

/-- Behind the append of one byte: the row and the field. -/
theorem put_one {wr w1 : World} {T base B : Nat} {vv v' x : Value} {cur : List UInt8} {b : UInt8} (h : Wr wr T base B vv cur) (hT : T ≠ 5) (hx : x = .int .u8 (b.toNat : Int)) (o : Obj)
    (hown : w1.ownsRow base 5 1 v' (cur.length + 1) (cells8 cur ++ [x])) (hgrow : (wr.alloc o).grownBy w1 vv.ownBlock) (hat : v'.ownBlock = vv.ownBlock ∨ v'.ownBlock = some (wr.heap.size + 1)) :
    (∃ g cap, v' = .slice (some ⟨g, 0, none⟩) (cur.length + 1) cap) ∧ w1.cell? ⟨B, 0, none⟩ = some vv ∧ w1.frozen? ⟨B, 0, none⟩ = false ∧
    Hid (Wr (w1.setCell ⟨B, 0, none⟩ v') T base B v' (cur ++ [b]) ∧ Wrote wr (w1.setCell ⟨B, 0, none⟩ v') B vv.ownBlock ∧ Moved wr vv v') := by
  have hg : wr.grownBy w1 vv.ownBlock := (World.grownBy_alloc wr o vv.ownBlock).trans hgrow
  have hB1 : w1.heap[B]? = some (.cells #[vv] T (0, 0)) := by rw [hg.block B h.lt (h.ne hT)]; exact h.1
  have hm : Moved wr vv v' := by
    rcases hat with e | e
    · exact Or.inl e
    · exact Or.inr ⟨_, e, by omega⟩
  refine ⟨?_, cell_of_one hB1, free_of_one hB1, Wr.put h hT (news := [b]) (by rw [hx] at hown; exact hown) hg hm⟩
  rcases hown.2 with ⟨_, e⟩ | ⟨g, cap, _, e, _⟩
  · omega
  · exact ⟨g, cap, e⟩

set_option maxHeartbeats 1000000 in
theorem wnum_any (base B : Nat) (v : Value) (bs : List UInt8) (n : Int) (w : World) (h : Wr w 92 base B v bs) (hbase : base ≤ w.heap.size) (h0 : -9223372036854775808 ≤ n) (h1 : n ≤ 9223372036854775807) (hl : bs.length + 10 ≤ 140737488355328) :
    Calls Tryd.prog 54 #[.pointer (some ⟨B, 0, none⟩), .int .i64 n] w fun e w' => e = .returned (.tuple #[]) ∧ ∃ v', Wr w' 92 base B v' (bs ++ enc n) ∧ Wrote w w' B v.ownBlock ∧ Moved w v v' := by
  obtain ⟨i, hi, hz0, hz1, hz2⟩ := info_parts Tryd.info5
  go_enter Tryd.func54, Tryd.ntmps54
  go_wp2_with (go_at_call 74; refine (fold_any n _ h0 h1).mono ?_; rintro e w' ⟨rfl, hw⟩; have hw' := hw.symm; subst hw')
  go_loopw [4] (fun u wr => ∃ (f uu : Nat) (vv : Value) (cur : List UInt8), u = .int .u64 (uu : Int) ∧ Hid (uu < 2 * 128 ^ f) ∧ f ≤ 9 ∧ Wr wr 92 base B vv cur ∧ Hid (cur ++ encF f uu = bs ++ enc n) ∧ cur.length + f ≤ bs.length + 9 ∧ Wrote w wr B v.ownBlock ∧ Moved w v vv) (fun u _ => (intOf u).toNat)
  case atStart => exact ⟨9, zig n, v, bs, rfl, by have := zig_lt n h0 h1; show _ < _; omega, Nat.le_refl _, h, rfl, Nat.le_refl _, Wrote.refl _ _ _, Moved.refl _ _⟩
  case round =>
    obtain ⟨f, uu, vv, cur, rfl, HU, hf, hWr, HC, hlen, hwro, hmov⟩ := hrel
    obtain ⟨c0, f0⟩ := one_cell hWr.1
    have hsz := hwro.size
    have hBl := hWr.lt
    by_cases hx : 128 ≤ uu
    · have hx' : (127 : Int) < (uu : Int) := by omega
      go_wp2_with (at_builtin; refine wpList_append_own_at _ rfl (.tmp 15) (.tmp 20) 33 rfl base 5 i (.int .u8 0) 1 1 Tryd.underlying33 hi hz0 hz1 hz2 rfl (by decide) vv cur.length (cells8 cur) rfl (hWr.2.alloc _) ⟨wr.heap.size, 0, none⟩ 1 1 [_] rfl rfl (cell_one_new _ _ _) (fun u hu => by simp at hu; subst hu; rfl) (by simp only [maxLen]; omega) (by omega) (by simp; omega) ?_)
      intro v' w1 hown' hgrow _ hat
      have hu64 : uu < 18446744073709551616 := by
        have h2 := HU.out
        have := Nat.mul_le_mul_left 2 (Nat.pow_le_pow_right (show 0 < 128 by omega) hf)
        omega
      obtain ⟨⟨g', cap', rfl⟩, c0', f0', HW⟩ := put_one hWr (by decide) (congrArg (Value.int .u8) (byte_more uu hu64)) _ hown' hgrow hat
      clear hown' hgrow hat c0 f0
      go_wp2
      go_roundw
      case rel =>
        obtain ⟨f', rfl⟩ : ∃ f', f = f' + 1 := by
          cases f with
          | zero => have := HU.out; omega
          | succ f' => exact ⟨f', rfl⟩
        refine ⟨f', uu / 128, _, cur ++ [UInt8.ofNat (uu % 128 + 128)], ?_, div_lt HU.out, by omega, HW.out.1, ?_, by simp; omega, hwro.trans hmov HW.out.2.1, hmov.trans HW.out.2.2 hwro.size⟩
        · exact congrArg (Value.int .u64) (Int.natCast_ediv uu 128).symm
        · show _ = _
          rw [← HC.out, encF_more _ _ hx]; simp
      case measure => simp [intOf]; omega
    · have hx' : ¬ (127 : Int) < (uu : Int) := by omega
      go_wp2_with (at_builtin; refine wpList_append_own_at _ rfl (.tmp 30) (.tmp 33) 33 rfl base 5 i (.int .u8 0) 1 1 Tryd.underlying33 hi hz0 hz1 hz2 rfl (by decide) vv cur.length (cells8 cur) rfl (hWr.2.alloc _) ⟨wr.heap.size, 0, none⟩ 1 1 [_] rfl rfl (cell_one_new _ _ _) (fun u hu => by simp at hu; subst hu; rfl) (by simp only [maxLen]; omega) (by omega) (by simp; omega) ?_)
      intro v' w1 hown' hgrow _ hat
      obtain ⟨⟨g', cap', rfl⟩, c0', f0', HW⟩ := put_one hWr (by decide) (congrArg (Value.int .u8) (byte_last uu (by omega))) _ hown' hgrow hat
      clear hown' hgrow hat c0 f0
      go_wp2
      go_end0
      refine ⟨rfl, _, ?_, hwro.trans hmov HW.out.2.1, hmov.trans HW.out.2.2 hwro.size⟩
      have := HW.out.1
      rw [← HC.out, encF_last _ _ (by omega)]
      exact this

set_option maxHeartbeats 400000 in
theorem wnum_nil (n : Int) (w : World) :
    Calls Tryd.prog 54 #[.pointer none, .int .i64 n] w fun e w' => e = .returned (.tuple #[]) ∧ w' = w := by
  go_enter Tryd.func54, Tryd.ntmps54
  go_wp2
  try simp only [Exit.inBlock, Exit.then]
  exact bodyPost_ret (results_none rfl _ _ _) rfl ⟨rfl, rfl⟩

set_option maxHeartbeats 400000 in
theorem wtext_nil (v : Value) (w : World) :
    Calls Tryd.prog 55 #[.pointer none, v] w fun e w' => e = .returned (.tuple #[]) ∧ w' = w := by
  go_enter Tryd.func55, Tryd.ntmps55
  go_wp2
  try simp only [Exit.inBlock, Exit.then]
  exact bodyPost_ret (results_none rfl _ _ _) rfl ⟨rfl, rfl⟩

set_option maxHeartbeats 400000 in
theorem wbytes_nil (w : World) :
    Calls Tryd.prog 57 #[.pointer none] w fun e w' => e = .returned (.slice none 0 0) ∧ w' = w := by
  go_enter Tryd.func57, Tryd.ntmps57
  go_wp2
  go_ret
  exact ⟨rfl, rfl⟩

set_option maxHeartbeats 400000 in
theorem wbytes_any (base B : Nat) (v : Value) (bs : List UInt8) (w : World) (h : Wr w 92 base B v bs) (hl : bs.length ≤ 140737488355328) :
    Calls Tryd.prog 57 #[.pointer (some ⟨B, 0, none⟩)] w fun e w' => ∃ v', e = .returned v' ∧ w'.ownsRow w.heap.size 5 1 v' bs.length (cells8 bs) ∧ Below w.heap.size w w' := by
  obtain ⟨c0, f0⟩ := one_cell h.1
  obtain ⟨ao, cap, rfl, _, _⟩ := h.sl.shape
  go_enter Tryd.func57, Tryd.ntmps57
  go_wp2_with (go_at_call 34; refine (clone_any _ bs _ h.sl hl).mono ?_; rintro e w' ⟨v', rfl, hown, hb⟩)
  go_ret
  exact ⟨_, rfl, hown, hb⟩

/-- Behind the append of bytes: the row and the field. -/
theorem put_many {wr w1 : World} {T base B : Nat} {vv v' : Value} {cur news : List UInt8} (h : Wr wr T base B vv cur) (hT : T ≠ 5)
    (hown : w1.ownsRow base 5 1 v' (cur.length + news.length) (cells8 cur ++ cells8 news)) (hg : wr.grownBy w1 vv.ownBlock) (hat : v'.ownBlock = vv.ownBlock ∨ v'.ownBlock = some wr.heap.size) :
    (∃ ao cap, v' = .slice ao (cur.length + news.length) cap) ∧ w1.cell? ⟨B, 0, none⟩ = some vv ∧ w1.frozen? ⟨B, 0, none⟩ = false ∧
    Hid (Wr (w1.setCell ⟨B, 0, none⟩ v') T base B v' (cur ++ news) ∧ Wrote wr (w1.setCell ⟨B, 0, none⟩ v') B vv.ownBlock ∧ Moved wr vv v') := by
  have hB1 : w1.heap[B]? = some (.cells #[vv] T (0, 0)) := by rw [hg.block B h.lt (h.ne hT)]; exact h.1
  have hm : Moved wr vv v' := by
    rcases hat with e | e
    · exact Or.inl e
    · exact Or.inr ⟨_, e, by omega⟩
  refine ⟨?_, cell_of_one hB1, free_of_one hB1, Wr.put h hT hown hg hm⟩
  rcases hown.2 with ⟨e, e0⟩ | ⟨g, cap, _, e, _⟩
  · exact ⟨none, 0, by rw [e, e0]⟩
  · exact ⟨_, cap, e⟩

theorem sl_news {w : World} {a : Addr} {cap : Nat} {bs : List UInt8} (h : Sl w (.slice (some a) bs.length cap) bs) : ∀ j u, (cells8 bs)[j]? = some u → w.cell? (a.add j) = some u := by
  intro j u hj
  have hjl : j < bs.length := by have := (List.getElem?_eq_some_iff.1 hj).1; simpa [cells8_len] using this
  obtain ⟨g, off, ha, hc⟩ := h.cell (by omega)
  simp only [Option.some.injEq] at ha
  subst ha
  rw [Addr.add_lit, hc j hjl, ← hj, cells8_at _ _ hjl]

set_option maxHeartbeats 1000000 in
theorem wtext_some (base B : Nat) (v : Value) (a : Addr) (cap : Nat) (bs t : List UInt8) (w : World) (h : Wr w 92 base B v bs) (hbase : base ≤ w.heap.size) (hsep : ∀ w', Wrote w w' B v.ownBlock → Sl w' (.slice (some a) t.length cap) t) (hl : bs.length + 10 + t.length ≤ 140737488355328) :
    Calls Tryd.prog 55 #[.pointer (some ⟨B, 0, none⟩), .slice (some a) t.length cap] w fun e w' => e = .returned (.tuple #[]) ∧ ∃ v', Wr w' 92 base B v' (bs ++ (enc t.length ++ t)) ∧ Wrote w w' B v.ownBlock ∧ Moved w v v' := by
  obtain ⟨i, hi, hz0, hz1, hz2⟩ := info_parts Tryd.info5
  go_enter Tryd.func55, Tryd.ntmps55
  go_wp2_with fail
  refine (wnum_any base B v bs t.length w h hbase (by omega) (by omega) (by omega)).mono ?_
  rintro e w1 ⟨rfl, v1, hW1, hw1, hm1⟩
  have ht1 := hsep w1 hw1
  obtain ⟨c0, f0⟩ := one_cell hW1.1
  have hb1 : base ≤ w1.heap.size := Nat.le_trans hbase hw1.size
  have hle := enc_le t.length
  have hlen1 : (bs ++ enc t.length).length ≤ bs.length + 10 := by rw [List.length_append]; omega
  go_wp2_with (at_builtin; refine wpList_append_own_at _ rfl _ _ 33 rfl base 5 i (.int .u8 0) 1 1 Tryd.underlying33 hi hz0 hz1 hz2 rfl (by decide) v1 _ _ rfl hW1.2 a t.length cap (cells8 t) rfl (by rw [cells8_len, Nat.mul_one]) (sl_news ht1) (cells8_one t) (by simp only [maxLen]; omega) (by omega) hb1 ?_)
  intro v' w2 hown' hgrow _ hat
  obtain ⟨⟨ao', cap', rfl⟩, c0', f0', HW⟩ := put_many (news := t) hW1 (by decide) (by rw [List.length_append]; exact hown') hgrow hat
  rw [List.length_append] at HW
  clear hown' hgrow hat c0 f0
  go_wp2
  go_end0
  refine ⟨rfl, _, ?_, hw1.trans hm1 HW.out.2.1, hm1.trans HW.out.2.2 hw1.size⟩
  rw [← List.append_assoc]
  exact HW.out.1

set_option maxHeartbeats 1000000 in
theorem wtext_none (base B : Nat) (v : Value) (bs : List UInt8) (w : World) (h : Wr w 92 base B v bs) (hbase : base ≤ w.heap.size) (hl : bs.length + 10 ≤ 140737488355328) :
    Calls Tryd.prog 55 #[.pointer (some ⟨B, 0, none⟩), .slice none 0 0] w fun e w' => e = .returned (.tuple #[]) ∧ ∃ v', Wr w' 92 base B v' (bs ++ enc 0) ∧ Wrote w w' B v.ownBlock ∧ Moved w v v' := by
  obtain ⟨i, hi, hz0, hz1, hz2⟩ := info_parts Tryd.info5
  go_enter Tryd.func55, Tryd.ntmps55
  go_wp2_with fail
  refine (wnum_any base B v bs 0 w h hbase (by omega) (by omega) (by omega)).mono ?_
  rintro e w1 ⟨rfl, v1, hW1, hw1, hm1⟩
  obtain ⟨c0, f0⟩ := one_cell hW1.1
  have HW : Hid (_) := Wr.put (news := []) hW1 (by decide) (by rw [List.length_nil, Nat.add_zero, show cells8 [] = [] from rfl, List.append_nil]; exact hW1.2) (grown_refl _ _) (Moved.refl _ _)
  rw [List.append_nil] at HW
  generalize hE : bs ++ enc 0 = E at hW1 HW c0
  have HE : Hid (bs ++ enc 0 = E) := hE
  clear hE
  obtain ⟨ao1, cap1, rfl, _, _⟩ := hW1.sl.shape
  go_wp2_with (at_builtin; refine wpList_append_own_none rfl _ _ 33 rfl base 5 i 1 Tryd.underlying33 hi _ _ _ rfl hW1.2 rfl ?_)
  go_end0
  exact ⟨rfl, _, by rw [HE.out]; exact HW.out.1, hw1.trans hm1 HW.out.2.1, hm1.trans HW.out.2.2 hw1.size⟩

theorem wtext_any (base B : Nat) (v vt : Value) (bs t : List UInt8) (w : World) (h : Wr w 92 base B v bs) (hbase : base ≤ w.heap.size) (ht : Sl w vt t) (hsep : ∀ w', Wrote w w' B v.ownBlock → Sl w' vt t) (hl : bs.length + 10 + t.length ≤ 140737488355328) :
    Calls Tryd.prog 55 #[.pointer (some ⟨B, 0, none⟩), vt] w fun e w' => e = .returned (.tuple #[]) ∧ ∃ v', Wr w' 92 base B v' (bs ++ (enc t.length ++ t)) ∧ Wrote w w' B v.ownBlock ∧ Moved w v v' := by
  obtain ⟨ao, cap, rfl, h1, h2, h3, h4⟩ := ht
  cases ao with
  | some a => exact wtext_some base B v a cap bs t w h hbase hsep hl
  | none =>
    have hc := h3 rfl
    have e : t = [] := List.eq_nil_of_length_eq_zero (by omega)
    subst e hc
    have := wtext_none base B v bs w h hbase (by omega)
    simpa using this
end Go.Proofs.YtnbdkojdddplkaaDoor.Bn
namespace Go.Proofs.YtnbdkojdddplkaaDoor.Fr
open Go.RowKit

theorem or_nat (a b k : Nat) (h : a < 2 ^ k) (hb : b % 2 ^ k = 0) (ha2 : a < 4294967296) (hb2 : b < 4294967296) : bits .or .u32 (a : Int) (b : Int) = ((a + b : Nat) : Int) := by
  rw [u32_or_nat a b ha2 hb2]
  congr 1
  obtain ⟨c, rfl⟩ : ∃ c, b = 2 ^ k * c := ⟨b / 2 ^ k, (Nat.mul_div_cancel' (Nat.dvd_of_mod_eq_zero hb)).symm⟩
  rw [Nat.or_comm, ← Nat.two_pow_add_eq_or_of_lt h]
  omega

theorem word_walk (bs : List UInt8) : bits .or .u32 (bits .or .u32 (bits .or .u32 (at8 bs 0 % 4294967296) (at8 bs 1 % 4294967296 * 256 % 4294967296)) (at8 bs 2 % 4294967296 * 65536 % 4294967296)) (at8 bs 3 % 4294967296 * 16777216 % 4294967296) = (wordN bs : Int) := by
  unfold at8 wordN
  have h0 := byte_lt (bs.getD 0 0)
  have h1 := byte_lt (bs.getD 1 0)
  have h2 := byte_lt (bs.getD 2 0)
  have h3 := byte_lt (bs.getD 3 0)
  generalize (bs.getD 0 0).toNat = a at *
  generalize (bs.getD 1 0).toNat = b at *
  generalize (bs.getD 2 0).toNat = c at *
  generalize (bs.getD 3 0).toNat = d at *
  rw [show (a : Int) % 4294967296 = (a : Int) by omega, show (b : Int) % 4294967296 * 256 % 4294967296 = ((256 * b : Nat) : Int) by omega, show (c : Int) % 4294967296 * 65536 % 4294967296 = ((65536 * c : Nat) : Int) by omega, show (d : Int) % 4294967296 * 16777216 % 4294967296 = ((16777216 * d : Nat) : Int) by omega]
  rw [or_nat a (256 * b) 8 (by omega) (by omega) (by omega) (by omega), or_nat _ (65536 * c) 16 (by omega) (by omega) (by omega) (by omega), or_nat _ (16777216 * d) 24 (by omega) (by omega) (by omega) (by omega)]

set_option maxHeartbeats 400000 in
theorem word_any (v : Value) (bs : List UInt8) (w : World) (h : Sl w v bs) (hl : 4 ≤ bs.length) :
    Calls Tryd.prog 83 #[v] w fun e w' => e = .returned (.int .u32 (wordN bs : Int)) ∧ ∃ m, w' = w.drewN m := by
  obtain ⟨ao, cap, rfl, h1, h2⟩ := h.shape
  obtain ⟨g, off, rfl, hc⟩ := h.cell (by omega)
  have c0 : w.cell? ⟨g, off, none⟩ = _ := hc 0 (by omega)
  have c1 := hc 1 (by omega)
  have c2 := hc 2 (by omega)
  have c3 := hc 3 (by omega)
  have l0 : (0 : Int) < (bs.length : Int) := by omega
  have l1 : (1 : Int) < (bs.length : Int) := by omega
  have l2 : (2 : Int) < (bs.length : Int) := by omega
  have l3 : (3 : Int) < (bs.length : Int) := by omega
  clear hc h
  go_enter Tryd.func83, Tryd.ntmps83
  go_wp2
  go_quiet (fail)
  go_wp2
  go_ret
  refine ⟨?_, _, rfl⟩
  exact congrArg (fun z => Ending.returned (.int .u32 z)) (word_walk bs)

/- bytes.Clone -/
theorem Tryd.info5 : (Tryd.prog.info? 5).map (fun i => (i.zero, i.size, i.bytes)) = some (some (.int .u8 0), 1, 1) := by kernel_rfl

set_option maxHeartbeats 400000 in
theorem clone_nil (w : World) :
    Calls Tryd.prog 34 #[.slice none 0 0] w fun e w' => e = .returned (.slice none 0 0) ∧ w' = w := by
  have he := fun w => Lib.run_eql_slice_nil (P := Tryd.prog) w 33 5 none 0 0 0 0 Tryd.underlying33
  go_enter Tryd.func34, Tryd.ntmps34
  go_wp2
  go_ret
  exact ⟨rfl, rfl⟩

set_option maxHeartbeats 400000 in
theorem clone_some (a : Addr) (cap : Nat) (bs : List UInt8) (w : World) (h : Sl w (.slice (some a) bs.length cap) bs) (hl : bs.length ≤ 140737488355328) :
    Calls Tryd.prog 34 #[.slice (some a) bs.length cap] w fun e w' => ∃ v', e = .returned v' ∧ w'.ownsRow w.heap.size 5 1 v' bs.length (cells8 bs) ∧ Below w.heap.size w w' := by
  obtain ⟨i, hi, hz0, hz1, hz2⟩ := info_parts Tryd.info5
  have hnews : ∀ (o : Obj), ∀ j u, (cells8 bs)[j]? = some u → (w.alloc o).cell? (a.add j) = some u := by
    intro o j u hj
    have hjl : j < bs.length := by have := (List.getElem?_eq_some_iff.1 hj).1; simpa [cells8_len] using this
    obtain ⟨g, off, ha, hc⟩ := (h.alloc o).cell (by omega)
    simp only [Option.some.injEq] at ha
    subst ha
    rw [Addr.add_lit, hc j hjl, ← hj, cells8_at _ _ hjl]
  have he := fun w => Lib.run_eql_slice_nil (P := Tryd.prog) w 33 5 (some a) bs.length cap 0 0 Tryd.underlying33
  go_enter Tryd.func34, Tryd.ntmps34
  go_wp2_with (at_builtin; refine wpList_append_own_at _ rfl (.tmp 5) (.tmp 6) 33 rfl w.heap.size 5 i (.int .u8 0) 1 1 Tryd.underlying33 hi hz0 hz1 hz2 rfl (by decide) _ 0 [] rfl (World.ownsRow_made w #[] 0 (Nat.le_refl _) (by simp [maxLen]) rfl) a bs.length cap (cells8 bs) rfl (by rw [cells8_len, Nat.mul_one]) (hnews _) (cells8_one bs) (by simp only [maxLen]; omega) (by omega) (by simp) ?_)
  intro v' w1 hown hgrow _ hat
  clear hnews he
  have hfin : w1.ownsRow w.heap.size 5 1 v' bs.length (cells8 bs) ∧ Below w.heap.size w w1 :=
    ⟨by simpa using hown, ((Below.refl _ _).alloc (Nat.le_refl _) _).grown hgrow (by simp) (fun k hk => by simp [Value.ownBlock] at hk; omega)⟩
  clear hown hgrow hat
  go_wp2
  go_ret
  exact ⟨_, rfl, hfin⟩

/-- A copy: nil of nil, else a row of its own. -/
theorem clone_any (v : Value) (bs : List UInt8) (w : World) (h : Sl w v bs) (hl : bs.length ≤ 140737488355328) :
    Calls Tryd.prog 34 #[v] w fun e w' => ∃ v', e = .returned v' ∧ w'.ownsRow w.heap.size 5 1 v' bs.length (cells8 bs) ∧ Below w.heap.size w w' := by
  obtain ⟨ao, cap, rfl, h1, h2, h3, h4⟩ := id h
  cases ao with
  | none =>
    have hc := h3 rfl
    have e : bs = [] := List.eq_nil_of_length_eq_zero (by omega)
    subst e
    subst hc
    exact (clone_nil w).mono fun _ _ ⟨he, hw⟩ => ⟨_, he, by subst hw; exact World.ownsRow_nil _ _ _ _, by subst hw; exact Below.refl _ _⟩
  | some a => exact clone_some a cap bs w h hl

theorem sl_news {w : World} {a : Addr} {cap : Nat} {bs : List UInt8} (h : Sl w (.slice (some a) bs.length cap) bs) : ∀ j u, (cells8 bs)[j]? = some u → w.cell? (a.add j) = some u := by
  intro j u hj
  have hjl : j < bs.length := by have := (List.getElem?_eq_some_iff.1 hj).1; simpa [cells8_len] using this
  obtain ⟨g, off, ha, hc⟩ := h.cell (by omega)
  simp only [Option.some.injEq] at ha
  subst ha
  rw [Addr.add_lit, hc j hjl, ← hj, cells8_at _ _ hjl]

set_option maxHeartbeats 400000 in
theorem short_any (v : Value) (bs : List UInt8) (m : Nat) (w : World) (h : Sl w v bs) (hm : m ≤ 1000) :
    Calls Tryd.prog 22 #[v, .int .i64 m] w fun e w' => ∃ v', e = .returned v' ∧ Sl w' v' (bs.take m) ∧ w' = w := by
  obtain ⟨ao, cap, rfl, h1, h2⟩ := h.shape
  have h2' : cap ≤ 9223372036854775807 := h2
  have HS : Hid (Sl w (.slice ao bs.length cap) bs) := h
  clear h
  by_cases hl : m < bs.length
  · have hl' : (m : Int) < (bs.length : Int) := by omega
    have hc : (m : Int) ≤ (cap : Int) := by omega
    go_enter Tryd.func22, Tryd.ntmps22
    go_wp2
    all_goals go_ret
    all_goals exact ⟨_, rfl, HS.out.take m (by omega), rfl⟩
  · have hl' : ¬ (m : Int) < (bs.length : Int) := by omega
    go_enter Tryd.func22, Tryd.ntmps22
    go_wp2
    go_ret
    exact ⟨_, rfl, by rw [List.take_of_length_le (by omega)]; exact HS.out, rfl⟩

/-- 'append' of bytes onto a slice of the call's own, whatever slice the bytes come from. -/
theorem wpList_append_sl {P : Program} (w : World) {ops : Array Oper} {rest : List Oper} {o : Oper} {a : Act} {Q : Exit → Act → World → Prop} (hgd : o.guard = none) (s x : Operand) (t : TypeId)
    (ho : o.op = .call { callee := .builtin .append, args := #[s, x], argTypes := #[t, t] }) (base : Nat) (i : TypeInfo) (ht : P.underlying t = some (.slice 5)) (hi : P.info? 5 = some i) (hz : i.zero = some (.int .u8 0)) (hsize : i.size = 1) (hby : i.bytes = 1)
    (v vx : Value) (bs tx : List UInt8) (hs : a.eval s = v) (hown : w.ownsRow base 5 1 v bs.length (cells8 bs)) (hx : a.eval x = vx) (hS : Sl w vx tx) (hl : bs.length + tx.length ≤ 140737488355328) (hbase : base ≤ w.heap.size)
    (h : ∀ v' w', w'.ownsRow base 5 1 v' (bs ++ tx).length (cells8 (bs ++ tx)) → w.grownBy w' v.ownBlock → (v'.ownBlock = v.ownBlock ∨ v'.ownBlock = some w.heap.size) → wpList P ops Q rest (a.put o.dst v') w') :
    wpList P ops Q (o :: rest) a w := by
  obtain ⟨ao, cap, rfl, h1, h2, h3, h4⟩ := id hS
  cases ao with
  | some ad =>
    refine wpList_append_own_at w hgd s x t ho base 5 i (.int .u8 0) 1 1 ht hi hz hsize hby rfl (by decide) v bs.length (cells8 bs) hs hown ad tx.length cap (cells8 tx) hx (by rw [cells8_len, Nat.mul_one]) (sl_news hS) (cells8_one tx) (by simp only [maxLen]; omega) (by omega) hbase ?_
    intro v' w' g1 g2 _ g4
    exact h v' w' (by rw [List.length_append, cells8_append]; exact g1) g2 g4
  | none =>
    have hc := h3 rfl
    have e : tx = [] := List.eq_nil_of_length_eq_zero (by omega)
    subst e hc
    refine wpList_append_own_none hgd s x t ho base 5 i 1 ht hi v bs.length (cells8 bs) hs hown hx ?_
    exact h v w (by rw [List.append_nil]; exact hown) (grown_refl _ _) (Or.inl rfl)


/-- New cells read as their bytes. -/
theorem sl_new (w : World) (C : Array Value) (bs : List UInt8) (T : TypeId) (f : Nat × Nat) (hC : C.toList = cells8 bs) (hl : bs.length ≤ 1000) : Sl (w.alloc (.cells C T f)) (.slice (some ⟨w.heap.size, 0, none⟩) bs.length bs.length) bs :=
  ⟨_, _, rfl, Nat.le_refl _, by simp [maxLen]; omega, fun e => by simp at e, fun _ => ⟨_, _, rfl, fun j hj => by
    rw [cell_of_row _ _ _ _ _ _ (heap_alloc_new _ _), Nat.zero_add, ← cells8_at bs j hj, ← hC]; simp⟩⟩

theorem le4_cells (n : Nat) : cells8 (le4 n) = [.int .u8 ((n : Int) % 256), .int .u8 ((n : Int) / 256 % 256), .int .u8 ((n : Int) / 65536 % 256), .int .u8 ((n : Int) / 16777216 % 256)] := by
  simp only [cells8, le4, List.map_cons, List.map_nil, ofNat_mod, List.cons.injEq, Value.int.injEq, true_and, and_true]
  refine ⟨?_, ?_, ?_, ?_⟩ <;> omega

set_option maxHeartbeats 1000000 in
theorem appendWord_any (base : Nat) (v : Value) (bs : List UInt8) (n : Nat) (w : World) (h : w.ownsRow base 5 1 v bs.length (cells8 bs)) (hbase : base ≤ w.heap.size) (hl : bs.length ≤ 1000) :
    Calls Tryd.prog 75 #[v, .int .u32 n] w fun e w' => ∃ v', e = .returned v' ∧ w'.ownsRow base 5 1 v' (bs ++ le4 n).length (cells8 (bs ++ le4 n)) ∧ w.grownBy w' v.ownBlock := by
  obtain ⟨i, hi, hz0, hz1, hz2⟩ := info_parts Tryd.info5
  obtain ⟨ao, cap, rfl, h1, h2⟩ := (Sl.of_own h).shape
  have HS : Hid (Sl (w.alloc (.cells #[.int .u8 ((n : Int) % 256), .int .u8 ((n : Int) / 256 % 256), .int .u8 ((n : Int) / 65536 % 256), .int .u8 ((n : Int) / 16777216 % 256)] 5)) (.slice (some ⟨w.heap.size, 0, none⟩) 4 4) (le4 n)) :=
    sl_new w _ (le4 n) _ _ (by rw [le4_cells]) (by rw [le4_len]; omega)
  have hn0 : (0 : Int) ≤ (n : Int) := by omega
  generalize ((n : Nat) : Int) = z at *
  go_enter Tryd.func75, Tryd.ntmps75
  go_wp2_with (at_builtin; refine wpList_append_sl _ rfl (.tmp 5) (.tmp 17) 33 rfl base i Tryd.underlying33 hi hz0 hz1 hz2 _ _ bs (le4 n) rfl (h.alloc _) rfl HS.out (by rw [le4_len]; omega) (by simp; omega) ?_)
  intro v' w1 hO hg _
  have hO' : w1.ownsRow base 5 1 v' (bs ++ le4 n).length (cells8 (bs ++ le4 n)) := by rw [List.length_append]; exact hO
  have HO : Hid (w1.ownsRow base 5 1 v' (bs ++ le4 n).length (cells8 (bs ++ le4 n))) := hO'
  have HG := (World.grownBy_alloc w _ _).trans hg
  clear hO hg hO'
  go_wp2
  go_ret
  exact ⟨_, rfl, HO.out, HG⟩
end Go.Proofs.YtnbdkojdddplkaaDoor.Fr

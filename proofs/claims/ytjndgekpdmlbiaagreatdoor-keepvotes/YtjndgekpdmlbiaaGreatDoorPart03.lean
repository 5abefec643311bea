/- The walks of a reader: Num, and of bytes.Clone and Read. The walks of a reader: Text and Flag. The walks of a writer: Num, Text, Flag, Bytes. The walks of the writer's and the reader's Flag. Files by rising names, and changes of them: plain mathematics, no walk. -/
import Derived.Test.YtjndgekpdmlbiaaGreatDoorPart02
import Derived.Lib.Bytealg
namespace Go.Proofs.YtjndgekpdmlbiaaGreatDoor.Bn
open Go.RowKit

set_option maxHeartbeats 400000 in
theorem rnum_none (B : Nat) (w : World) (h : Rd w 164 B none) :
    Calls Tryz.prog 104 #[.pointer (some ⟨B, 0, none⟩)] w fun e w' => e = .returned (.int .i64 0) ∧ Rd w' 164 B none ∧ w.grownBy w' (some B) := by
  go_enter Tryz.func104, Tryz.ntmps104
  go_wp2_with (go_at_call 84; refine (ok_any B none _ h).mono ?_; rintro e w' ⟨rfl, rfl⟩)
  go_ret
  exact ⟨rfl, h, grown_refl _ _⟩

set_option maxHeartbeats 400000 in
theorem rnum_bad (B : Nat) (bs : List UInt8) (w : World) (h : Rd w 164 B (some bs)) (hn : num bs = none) :
    Calls Tryz.prog 104 #[.pointer (some ⟨B, 0, none⟩)] w fun e w' => e = .returned (.int .i64 0) ∧ Rd w' 164 B none ∧ w.grownBy w' (some B) := by
  have H := h
  obtain ⟨v, hB, hv, hp, hlim⟩ := h
  obtain ⟨c0, c1, f0, f1⟩ := two_cells hB
  obtain ⟨ao, cap, rfl, hc1, hc2⟩ := hv.shape
  have HN : Hid (num bs = none) := hn
  have HV : Hid (Sl w (.slice ao (Option.getD (some bs) []).length cap) ((some bs).getD [])) := hv
  clear hn hv hB hp hlim
  go_enter Tryz.func104, Tryz.ntmps104
  go_wp2_with (first
    | (go_at_call 84; refine (ok_any B (some bs) _ H).mono ?_; rintro e w' ⟨rfl, rfl⟩)
    | (go_at_call 130; refine (groups_none _ bs _ HV.out HN.out).mono ?_; rintro e w' ⟨rfl, rfl⟩)
    | (go_at_call 108; refine (fail_any B (some bs) _ H).mono ?_; rintro e w' ⟨rfl, hr', hg'⟩))
  go_ret
  exact ⟨rfl, hr', hg'⟩

set_option maxHeartbeats 400000 in
theorem rnum_ok (B : Nat) (bs : List UInt8) (w : World) (h : Rd w 164 B (some bs)) (u k : Nat) (hn : num bs = some (u, k)) :
    Calls Tryz.prog 104 #[.pointer (some ⟨B, 0, none⟩)] w fun e w' => e = .returned (.int .i64 (zag u)) ∧ Rd w' 164 B (some (bs.drop k)) ∧ w.grownBy w' (some B) := by
  obtain ⟨hu, hk0, hkl, hk10⟩ := num_bds hn
  have H := h
  obtain ⟨v, hB, hv, hp, hlim⟩ := h
  obtain ⟨c0, c1, f0, f1⟩ := two_cells hB
  obtain ⟨ao, cap, rfl, hc1, hc2⟩ := hv.shape
  have hkl' : k ≤ (Option.getD (some bs) []).length := hkl
  obtain ⟨g, off, rfl, _⟩ := hv.cell (by omega)
  have HN : Hid (num bs = some (u, k)) := hn
  have HP : Hid (_) := Rd.put hB hv (sl_rest hv k hkl').1 (sl_rest hv k hkl').2 (by rw [List.length_drop]; omega)
  have HV : Hid (Sl w (.slice (some ⟨g, off, none⟩) (Option.getD (some bs) []).length cap) ((some bs).getD [])) := hv
  have hkc : (k : Int) ≤ (bs.length : Int) := by omega
  have hne : ((k : Int) == 0) = false := by rw [beq_eq_false_iff_ne]; omega
  have hcm : (bs.length : Int) ≤ cap := by have : bs.length ≤ cap := hc1; omega
  clear hn hv hB hkl' hp hlim
  go_enter Tryz.func104, Tryz.ntmps104
  go_wp2_with (first
    | (go_at_call 84; refine (ok_any B (some bs) _ H).mono ?_; rintro e w' ⟨rfl, rfl⟩)
    | (go_at_call 130; refine (groups_ok _ bs _ HV.out u k HN.out).mono ?_; rintro e w' ⟨rfl, rfl⟩)
    | (go_at_call 131; refine (unfold_any u _ (by omega)).mono ?_; rintro e w' ⟨rfl, rfl⟩))
  all_goals go_ret
  · have hp := HP.out
    rw [if_pos (by assumption), show cap - k = 0 by omega] at hp
    exact ⟨rfl, hp⟩
  · have hp := HP.out
    rw [if_neg (by assumption)] at hp
    exact ⟨rfl, hp⟩

theorem rnum_any (B : Nat) (st : Option (List UInt8)) (w : World) (h : Rd w 164 B st) :
    Calls Tryz.prog 104 #[.pointer (some ⟨B, 0, none⟩)] w fun e w' => e = .returned (.int .i64 (rNum st).1) ∧ Rd w' 164 B (rNum st).2 ∧ w.grownBy w' (some B) := by
  cases st with
  | none => exact rnum_none B w h
  | some bs =>
    cases hn : num bs with
    | none => simp only [rNum, hn]; exact rnum_bad B bs w h hn
    | some uk => obtain ⟨u, k⟩ := uk; simp only [rNum, hn]; exact rnum_ok B bs w h u k hn

set_option maxHeartbeats 400000 in
theorem rnum_nil (w : World) :
    Calls Tryz.prog 104 #[.pointer none] w fun e w' => e = .returned (.int .i64 0) ∧ w' = w := by
  go_enter Tryz.func104, Tryz.ntmps104
  go_wp2_with (go_at_call 84; refine (ok_nil _).mono ?_; rintro e w' ⟨rfl, rfl⟩)
  go_ret
  exact ⟨rfl, rfl⟩

/- bytes.Clone -/
theorem Tryz.info5 : (Tryz.prog.info? 5).map (fun i => (i.zero, i.size, i.bytes)) = some (some (.int .u8 0), 1, 1) := by kernel_rfl

set_option maxHeartbeats 400000 in
theorem clone_nil (w : World) :
    Calls Tryz.prog 58 #[.slice none 0 0] w fun e w' => e = .returned (.slice none 0 0) ∧ w' = w := by
  have he := fun w => Lib.run_eql_slice_nil (P := Tryz.prog) w 33 5 none 0 0 0 0 Tryz.underlying33
  go_enter Tryz.func58, Tryz.ntmps58
  go_wp2
  go_ret
  exact ⟨rfl, rfl⟩

set_option maxHeartbeats 400000 in
theorem clone_some (a : Addr) (cap : Nat) (bs : List UInt8) (w : World) (h : Sl w (.slice (some a) bs.length cap) bs) (hl : bs.length ≤ 140737488355328) :
    Calls Tryz.prog 58 #[.slice (some a) bs.length cap] w fun e w' => ∃ v', e = .returned v' ∧ w'.ownsRow w.heap.size 5 1 v' bs.length (cells8 bs) ∧ Below w.heap.size w w' := by
  obtain ⟨i, hi, hz0, hz1, hz2⟩ := info_parts Tryz.info5
  have hnews : ∀ (o : Obj), ∀ j u, (cells8 bs)[j]? = some u → (w.alloc o).cell? (a.add j) = some u := by
    intro o j u hj
    have hjl : j < bs.length := by have := (List.getElem?_eq_some_iff.1 hj).1; simpa [cells8_len] using this
    obtain ⟨g, off, ha, hc⟩ := (h.alloc o).cell (by omega)
    simp only [Option.some.injEq] at ha
    subst ha
    rw [Addr.add_lit, hc j hjl, ← hj, cells8_at _ _ hjl]
  have he := fun w => Lib.run_eql_slice_nil (P := Tryz.prog) w 33 5 (some a) bs.length cap 0 0 Tryz.underlying33
  go_enter Tryz.func58, Tryz.ntmps58
  go_wp2_with (at_builtin; refine wpList_append_own_at _ rfl (.tmp 5) (.tmp 6) 33 rfl w.heap.size 5 i (.int .u8 0) 1 1 Tryz.underlying33 hi hz0 hz1 hz2 rfl (by decide) _ 0 [] rfl (World.ownsRow_made w #[] 0 (Nat.le_refl _) (by simp [maxLen]) rfl) a bs.length cap (cells8 bs) rfl (by rw [cells8_len, Nat.mul_one]) (hnews _) (cells8_one bs) (by simp only [maxLen]; omega) (by omega) (by simp) ?_)
  intro v' w1 hown hgrow _ hat
  clear hnews he
  have hfin : w1.ownsRow w.heap.size 5 1 v' bs.length (cells8 bs) ∧ Below w.heap.size w w1 :=
    ⟨by simpa using hown, ((Below.refl _ _).alloc (Nat.le_refl _) _).grown hgrow (by simp) (fun k hk => by simp [Value.ownBlock] at hk; omega)⟩
  clear hown hgrow hat
  go_wp2
  go_ret
  exact ⟨_, rfl, hfin⟩

/-- A copy: nil of nil, else a row of its own. -/
theorem clone_any (v : Value) (bs : List UInt8) (w : World) (h : Sl w v bs) (hl : bs.length ≤ 140737488355328) :
    Calls Tryz.prog 58 #[v] w fun e w' => ∃ v', e = .returned v' ∧ w'.ownsRow w.heap.size 5 1 v' bs.length (cells8 bs) ∧ Below w.heap.size w w' := by
  obtain ⟨ao, cap, rfl, h1, h2, h3, h4⟩ := id h
  cases ao with
  | none =>
    have hc := h3 rfl
    have e : bs = [] := List.eq_nil_of_length_eq_zero (by omega)
    subst e
    subst hc
    exact (clone_nil w).mono fun _ _ ⟨he, hw⟩ => ⟨_, he, by subst hw; exact World.ownsRow_nil _ _ _ _, by subst hw; exact Below.refl _ _⟩
  | some a => exact clone_some a cap bs w h hl

set_option maxHeartbeats 400000 in
theorem read_any (v : Value) (bs : List UInt8) (w : World) (h : Sl w v bs) (hl : bs.length ≤ 140737488355328) :
    Calls Tryz.prog 82 #[v] w fun e w' => ∃ B, e = .returned (.pointer (some ⟨B, 0, none⟩)) ∧ w.heap.size ≤ B ∧ Rd w' 164 B (some bs) ∧ Below w.heap.size w w' := by
  obtain ⟨ao, cap, rfl, h1, h2⟩ := h.shape
  go_enter Tryz.func82, Tryz.ntmps82
  go_wp2_with (go_at_call 58; refine (clone_any _ bs _ h hl).mono ?_; rintro e w' ⟨v', rfl, hown, hb⟩; obtain ⟨ao', cap', rfl, hc1', hc2'⟩ := (Sl.of_own hown).shape)
  go_ret
  refine ⟨w'.heap.size, rfl, hb.size, ⟨_, heap_alloc_new _ _, (Sl.of_own hown).alloc _, Pl.of_own hown, hl⟩, hb.alloc hb.size _⟩
end Go.Proofs.YtjndgekpdmlbiaaGreatDoor.Bn
namespace Go.Proofs.YtjndgekpdmlbiaaGreatDoor.Bn
open Go.RowKit

theorem rnum_is (B : Nat) (st st1 : Option (List UInt8)) (n : Int) (w : World) (h : Rd w 164 B st) (hn : rNum st = (n, st1)) :
    Calls Tryz.prog 104 #[.pointer (some ⟨B, 0, none⟩)] w fun e w' => e = .returned (.int .i64 n) ∧ Rd w' 164 B st1 ∧ w.grownBy w' (some B) := by
  have := rnum_any B st w h
  rw [hn] at this
  exact this

theorem grown_trans {a b c : World} {row : Option Nat} (h : a.grownBy b row) (k : b.grownBy c row) : a.grownBy c row := h.trans k
theorem grown_below {a b c : World} {row : Option Nat} (h : a.grownBy b row) (k : Below b.heap.size b c) : a.grownBy c row :=
  ⟨k.os.trans h.os, k.tape.trans h.tape, k.output.trans h.output, Nat.le_trans h.size k.size, fun i hi hne => (k.block i (Nat.lt_of_lt_of_le hi h.size)).trans (h.block i hi hne)⟩

set_option maxHeartbeats 400000 in
theorem rtext_none (B : Nat) (st : Option (List UInt8)) (n : Int) (w : World) (h : Rd w 164 B st) (hn : rNum st = (n, none)) :
    Calls Tryz.prog 105 #[.pointer (some ⟨B, 0, none⟩)] w fun e w' => ∃ v, e = .returned v ∧ Sl w' v [] ∧ Rd w' 164 B none ∧ w.grownBy w' (some B) := by
  have HN : Hid (rNum st = (n, none)) := hn
  clear hn
  go_enter Tryz.func105, Tryz.ntmps105
  go_wp2_with (first
    | (go_at_call 104; refine (rnum_is B st none n _ h HN.out).mono ?_; rintro e w1 ⟨rfl, hr1, hg1⟩)
    | (go_at_call 84; refine (ok_any B none _ hr1).mono ?_; rintro e w' ⟨rfl, rfl⟩))
  go_ret
  exact ⟨_, rfl, Sl.nil _, hr1, hg1⟩

set_option maxHeartbeats 400000 in
theorem rtext_bad (B : Nat) (st : Option (List UInt8)) (bs : List UInt8) (n : Int) (w : World) (h : Rd w 164 B st) (hn : rNum st = (n, some bs)) (hb : ¬ (0 ≤ n ∧ n ≤ bs.length)) :
    Calls Tryz.prog 105 #[.pointer (some ⟨B, 0, none⟩)] w fun e w' => ∃ v, e = .returned v ∧ Sl w' v [] ∧ Rd w' 164 B none ∧ w.grownBy w' (some B) := by
  have HN : Hid (rNum st = (n, some bs)) := hn
  clear hn
  by_cases h0 : n < 0
  · clear hb
    go_enter Tryz.func105, Tryz.ntmps105
    go_wp2_with (first
      | (go_at_call 104; refine (rnum_is B st (some bs) n _ h HN.out).mono ?_; rintro e w1 ⟨rfl, hr1, hg1⟩)
      | (go_at_call 84; refine (ok_any B (some bs) _ hr1).mono ?_; rintro e w' ⟨rfl, rfl⟩)
      | (go_at_call 108; refine (fail_any B (some bs) _ hr1).mono ?_; rintro e w2 ⟨rfl, hr2, hg2⟩))
    go_ret
    exact ⟨_, rfl, Sl.nil _, hr2, hg1.trans hg2⟩
  · have h1 : (bs.length : Int) < n := by omega
    clear hb
    go_enter Tryz.func105, Tryz.ntmps105
    go_wp2_with (first
      | (go_at_call 104; refine (rnum_is B st (some bs) n _ h HN.out).mono ?_; rintro e w1 ⟨rfl, hr1, hg1⟩)
      | (go_at_call 84; refine (ok_any B (some bs) _ hr1).mono ?_; rintro e w' ⟨rfl, rfl⟩; have H1 := hr1; obtain ⟨v, hB, hv, _, _⟩ := hr1; obtain ⟨ao, cap, rfl, _, _⟩ := hv.shape; obtain ⟨c0, _, _, _⟩ := two_cells hB; clear hB hv)
      | (go_at_call 108; refine (fail_any B (some bs) _ H1).mono ?_; rintro e w2 ⟨rfl, hr2, hg2⟩))
    go_ret
    exact ⟨_, rfl, Sl.nil _, hr2, hg1.trans hg2⟩

set_option maxHeartbeats 400000 in
theorem rtext_ok (B : Nat) (st : Option (List UInt8)) (bs : List UInt8) (m : Nat) (w : World) (h : Rd w 164 B st) (hn : rNum st = ((m : Int), some bs)) (hb : m ≤ bs.length) :
    Calls Tryz.prog 105 #[.pointer (some ⟨B, 0, none⟩)] w fun e w' => ∃ v, e = .returned v ∧ Sl w' v (bs.take m) ∧ Rd w' 164 B (some (bs.drop m)) ∧ w.grownBy w' (some B) := by
  have HN : Hid (rNum st = ((m : Int), some bs)) := hn
  clear hn
  have hb' : (m : Int) ≤ bs.length := by omega
  go_enter Tryz.func105, Tryz.ntmps105
  go_wp2_with fail
  refine (rnum_is B st (some bs) m _ h HN.out).mono ?_
  rintro e w1 ⟨rfl, hr1, hg1⟩
  have H1 := hr1
  obtain ⟨v, hB, hv, hp, hlim⟩ := hr1
  have hlim' : bs.length ≤ 140737488355328 := hlim
  rcases hp with rfl | ⟨g, off, n', cap, rfl⟩
  · have e0 := hv.len
    simp only [Option.getD_some] at e0
    have e1 : bs = [] := List.eq_nil_of_length_eq_zero e0.symm
    subst e1
    have e2 : m = 0 := by simpa using hb
    subst e2
    obtain ⟨c0, c1, f0, f1⟩ := two_cells hB
    have HP : Hid (_) := Rd.put hB hv (Sl.nil _) (Or.inl rfl) (by simp)
    clear hv hlim hlim' hB e0 hb hb'
    go_wp2_with (first
      | (go_at_call 84; refine (ok_any B (some []) _ H1).mono ?_; rintro e w' ⟨rfl, rfl⟩)
      | (go_at_call 58; refine (clone_nil _).mono ?_; rintro e w2 ⟨rfl, rfl⟩))
    go_ret
    exact ⟨_, rfl, Sl.nil _, HP.out.1, hg1.trans HP.out.2⟩
  · have e0 := hv.len
    simp only [Option.getD_some] at e0
    subst e0
    have hcap : bs.length ≤ cap := by obtain ⟨_, _, e, h1, _⟩ := hv; simp only [Value.slice.injEq] at e; rw [e.2.2]; exact h1
    obtain ⟨c0, c1, f0, f1⟩ := two_cells hB
    have hBl := lt_of_block hB
    have HV : Hid (Sl w1 (.slice (some ⟨g, off, none⟩) bs.length cap) bs) := hv
    have HB : Hid (_) := hB
    clear hv hlim hB
    go_wp2_with (first
      | (go_at_call 84; refine (ok_any B (some bs) _ H1).mono ?_; rintro e w' ⟨rfl, rfl⟩)
      | (go_at_call 58; refine (clone_any _ (bs.take m) _ (HV.out.take m hb) (by rw [List.length_take]; omega)).mono ?_; rintro e w2 ⟨v', rfl, hown, hb2⟩; have c0' := (hb2.cell (p := ⟨B, 0, none⟩) hBl).trans c0; have f0' := (hb2.frozen (p := ⟨B, 0, none⟩) hBl).trans f0; obtain ⟨ao', cap', rfl, _, _⟩ := (Sl.of_own hown).shape))
    all_goals go_ret
    all_goals
      have hB2 := (hb2.block B hBl).trans HB.out
      have hv2 := HV.out.below hb2
      have HP := Rd.put hB2 hv2 (sl_rest hv2 m hb).1 (sl_rest hv2 m hb).2 (by rw [List.length_drop]; omega)
      have hlm : (bs.take m).length = m := by rw [List.length_take]; omega
      have HS := (Sl.of_own hown).rd (st := some bs) ⟨_, hB2, hv2, Or.inr ⟨_, _, _, _, rfl⟩, hlim'⟩ HP.2
    · rw [if_pos (by assumption), show cap - m = 0 by omega] at HP HS
      rw [hlm] at HS
      exact ⟨_, rfl, HS, HP.1, (grown_below hg1 hb2).trans HP.2⟩
    · rw [if_neg (by assumption)] at HP HS
      rw [hlm] at HS
      exact ⟨_, rfl, HS, HP.1, (grown_below hg1 hb2).trans HP.2⟩

theorem rtext_any (B : Nat) (st : Option (List UInt8)) (w : World) (h : Rd w 164 B st) :
    Calls Tryz.prog 105 #[.pointer (some ⟨B, 0, none⟩)] w fun e w' => ∃ v, e = .returned v ∧ Sl w' v (rText st).1 ∧ Rd w' 164 B (rText st).2 ∧ w.grownBy w' (some B) := by
  unfold rText
  cases hn : rNum st with
  | mk n st1 =>
    cases st1 with
    | none => exact rtext_none B st n w h hn
    | some bs =>
      simp only [rCut]
      by_cases hb : 0 ≤ n ∧ n ≤ bs.length
      · rw [if_pos hb]
        obtain ⟨m, rfl⟩ := Int.eq_ofNat_of_zero_le hb.1
        exact rtext_ok B st bs m w h hn (by omega)
      · rw [if_neg hb]
        exact rtext_bad B st bs n w h hn hb

set_option maxHeartbeats 400000 in
theorem rtext_nil (w : World) :
    Calls Tryz.prog 105 #[.pointer none] w fun e w' => e = .returned (.slice none 0 0) ∧ w' = w := by
  go_enter Tryz.func105, Tryz.ntmps105
  go_wp2_with (first
    | (go_at_call 104; refine (rnum_nil _).mono ?_; rintro e w' ⟨rfl, rfl⟩)
    | (go_at_call 84; refine (ok_nil _).mono ?_; rintro e w' ⟨rfl, rfl⟩))
  go_ret
  exact ⟨rfl, rfl⟩

end Go.Proofs.YtjndgekpdmlbiaaGreatDoor.Bn
namespace Go.Proofs.YtjndgekpdmlbiaaGreatDoor.Bn
open Go.RowKit

theorem one_cell {w : World} {B T : Nat} {v : Value} (h : w.heap[B]? = some (.cells #[v] T (0, 0))) : w.cell? ⟨B, 0, none⟩ = some v ∧ w.frozen? ⟨B, 0, none⟩ = false := ⟨cell_of_one h, free_of_one h⟩

theorem byte_more (uu : Nat) (h : uu < 18446744073709551616) : bits .or .u8 (bits .and .u64 (uu : Int) 127 % 256) 128 = ((UInt8.ofNat (uu % 128 + 128)).toNat : Int) := by
  have h1 : bits .and .u64 (uu : Int) 127 = ((uu % 128 : Nat) : Int) := by
    have := u64_and_nat uu 127 h (by omega)
    rw [nat_mask7] at this
    exact this
  rw [h1, toNat_lo (by omega), Int.emod_eq_of_lt (by omega) (by omega), u8_or128_right _ (by omega) (by omega)]
  omega
theorem byte_last (uu : Nat) (h : uu < 128) : (uu : Int) = ((UInt8.ofNat uu).toNat : Int) := by
  rw [toNat_lo (by omega)]

/-- Behind the append of one byte: the row and the field. -/
theorem put_one {wr w1 : World} {T base B : Nat} {vv v' x : Value} {cur : List UInt8} {b : UInt8} (h : Wr wr T base B vv cur) (hT : T ≠ 5) (hx : x = .int .u8 (b.toNat : Int)) (o : Obj)
    (hown : w1.ownsRow base 5 1 v' (cur.length + 1) (cells8 cur ++ [x])) (hgrow : (wr.alloc o).grownBy w1 vv.ownBlock) (hat : v'.ownBlock = vv.ownBlock ∨ v'.ownBlock = some (wr.heap.size + 1)) :
    (∃ g cap, v' = .slice (some ⟨g, 0, none⟩) (cur.length + 1) cap) ∧ w1.cell? ⟨B, 0, none⟩ = some vv ∧ w1.frozen? ⟨B, 0, none⟩ = false ∧
    Hid (Wr (w1.setCell ⟨B, 0, none⟩ v') T base B v' (cur ++ [b]) ∧ Wrote wr (w1.setCell ⟨B, 0, none⟩ v') B vv.ownBlock ∧ Moved wr vv v') := by
  have hg : wr.grownBy w1 vv.ownBlock := (World.grownBy_alloc wr o vv.ownBlock).trans hgrow
  have hB1 : w1.heap[B]? = some (.cells #[vv] T (0, 0)) := by rw [hg.block B h.lt (h.ne hT)]; exact h.1
  have hm : Moved wr vv v' := by
    rcases hat with e | e
    · exact Or.inl e
    · exact Or.inr ⟨_, e, by omega⟩
  refine ⟨?_, cell_of_one hB1, free_of_one hB1, Wr.put h hT (news := [b]) (by rw [hx] at hown; exact hown) hg hm⟩
  rcases hown.2 with ⟨_, e⟩ | ⟨g, cap, _, e, _⟩
  · omega
  · exact ⟨g, cap, e⟩

set_option maxHeartbeats 1000000 in
theorem wnum_any (base B : Nat) (v : Value) (bs : List UInt8) (n : Int) (w : World) (h : Wr w 169 base B v bs) (hbase : base ≤ w.heap.size) (h0 : -9223372036854775808 ≤ n) (h1 : n ≤ 9223372036854775807) (hl : bs.length + 10 ≤ 140737488355328) :
    Calls Tryz.prog 115 #[.pointer (some ⟨B, 0, none⟩), .int .i64 n] w fun e w' => e = .returned (.tuple #[]) ∧ ∃ v', Wr w' 169 base B v' (bs ++ enc n) ∧ Wrote w w' B v.ownBlock ∧ Moved w v v' := by
  obtain ⟨i, hi, hz0, hz1, hz2⟩ := info_parts Tryz.info5
  go_enter Tryz.func115, Tryz.ntmps115
  go_wp2_with (go_at_call 135; refine (fold_any n _ h0 h1).mono ?_; rintro e w' ⟨rfl, hw⟩; have hw' := hw.symm; subst hw')
  go_loopw [4] (fun u wr => ∃ (f uu : Nat) (vv : Value) (cur : List UInt8), u = .int .u64 (uu : Int) ∧ Hid (uu < 2 * 128 ^ f) ∧ f ≤ 9 ∧ Wr wr 169 base B vv cur ∧ Hid (cur ++ encF f uu = bs ++ enc n) ∧ cur.length + f ≤ bs.length + 9 ∧ Wrote w wr B v.ownBlock ∧ Moved w v vv) (fun u _ => (intOf u).toNat)
  case atStart => exact ⟨9, zig n, v, bs, rfl, by have := zig_lt n h0 h1; show _ < _; omega, Nat.le_refl _, h, rfl, Nat.le_refl _, Wrote.refl _ _ _, Moved.refl _ _⟩
  case round =>
    obtain ⟨f, uu, vv, cur, rfl, HU, hf, hWr, HC, hlen, hwro, hmov⟩ := hrel
    obtain ⟨c0, f0⟩ := one_cell hWr.1
    have hsz := hwro.size
    have hBl := hWr.lt
    by_cases hx : 128 ≤ uu
    · have hx' : (127 : Int) < (uu : Int) := by omega
      go_wp2_with (at_builtin; refine wpList_append_own_at _ rfl (.tmp 15) (.tmp 20) 33 rfl base 5 i (.int .u8 0) 1 1 Tryz.underlying33 hi hz0 hz1 hz2 rfl (by decide) vv cur.length (cells8 cur) rfl (hWr.2.alloc _) ⟨wr.heap.size, 0, none⟩ 1 1 [_] rfl rfl (cell_one_new _ _ _) (fun u hu => by simp at hu; subst hu; rfl) (by simp only [maxLen]; omega) (by omega) (by simp; omega) ?_)
      intro v' w1 hown' hgrow _ hat
      have hu64 : uu < 18446744073709551616 := by
        have h2 := HU.out
        have := Nat.mul_le_mul_left 2 (Nat.pow_le_pow_right (show 0 < 128 by omega) hf)
        omega
      obtain ⟨⟨g', cap', rfl⟩, c0', f0', HW⟩ := put_one hWr (by decide) (congrArg (Value.int .u8) (byte_more uu hu64)) _ hown' hgrow hat
      clear hown' hgrow hat c0 f0
      go_wp2
      go_roundw
      case rel =>
        obtain ⟨f', rfl⟩ : ∃ f', f = f' + 1 := by
          cases f with
          | zero => have := HU.out; omega
          | succ f' => exact ⟨f', rfl⟩
        refine ⟨f', uu / 128, _, cur ++ [UInt8.ofNat (uu % 128 + 128)], ?_, div_lt HU.out, by omega, HW.out.1, ?_, by simp; omega, hwro.trans hmov HW.out.2.1, hmov.trans HW.out.2.2 hwro.size⟩
        · exact congrArg (Value.int .u64) (Int.natCast_ediv uu 128).symm
        · show _ = _
          rw [← HC.out, encF_more _ _ hx]; simp
      case measure => simp [intOf]; omega
    · have hx' : ¬ (127 : Int) < (uu : Int) := by omega
      go_wp2_with (at_builtin; refine wpList_append_own_at _ rfl (.tmp 30) (.tmp 33) 33 rfl base 5 i (.int .u8 0) 1 1 Tryz.underlying33 hi hz0 hz1 hz2 rfl (by decide) vv cur.length (cells8 cur) rfl (hWr.2.alloc _) ⟨wr.heap.size, 0, none⟩ 1 1 [_] rfl rfl (cell_one_new _ _ _) (fun u hu => by simp at hu; subst hu; rfl) (by simp only [maxLen]; omega) (by omega) (by simp; omega) ?_)
      intro v' w1 hown' hgrow _ hat
      obtain ⟨⟨g', cap', rfl⟩, c0', f0', HW⟩ := put_one hWr (by decide) (congrArg (Value.int .u8) (byte_last uu (by omega))) _ hown' hgrow hat
      clear hown' hgrow hat c0 f0
      go_wp2
      go_end0
      refine ⟨rfl, _, ?_, hwro.trans hmov HW.out.2.1, hmov.trans HW.out.2.2 hwro.size⟩
      have := HW.out.1
      rw [← HC.out, encF_last _ _ (by omega)]
      exact this

set_option maxHeartbeats 400000 in
theorem wnum_nil (n : Int) (w : World) :
    Calls Tryz.prog 115 #[.pointer none, .int .i64 n] w fun e w' => e = .returned (.tuple #[]) ∧ w' = w := by
  go_enter Tryz.func115, Tryz.ntmps115
  go_wp2
  try simp only [Exit.inBlock, Exit.then]
  exact bodyPost_ret (results_none rfl _ _ _) rfl ⟨rfl, rfl⟩

set_option maxHeartbeats 400000 in
theorem wtext_nil (v : Value) (w : World) :
    Calls Tryz.prog 136 #[.pointer none, v] w fun e w' => e = .returned (.tuple #[]) ∧ w' = w := by
  go_enter Tryz.func136, Tryz.ntmps136
  go_wp2
  try simp only [Exit.inBlock, Exit.then]
  exact bodyPost_ret (results_none rfl _ _ _) rfl ⟨rfl, rfl⟩

set_option maxHeartbeats 400000 in
theorem wbytes_nil (w : World) :
    Calls Tryz.prog 118 #[.pointer none] w fun e w' => e = .returned (.slice none 0 0) ∧ w' = w := by
  go_enter Tryz.func118, Tryz.ntmps118
  go_wp2
  go_ret
  exact ⟨rfl, rfl⟩

set_option maxHeartbeats 400000 in
theorem wbytes_any (base B : Nat) (v : Value) (bs : List UInt8) (w : World) (h : Wr w 169 base B v bs) (hl : bs.length ≤ 140737488355328) :
    Calls Tryz.prog 118 #[.pointer (some ⟨B, 0, none⟩)] w fun e w' => ∃ v', e = .returned v' ∧ w'.ownsRow w.heap.size 5 1 v' bs.length (cells8 bs) ∧ Below w.heap.size w w' := by
  obtain ⟨c0, f0⟩ := one_cell h.1
  obtain ⟨ao, cap, rfl, _, _⟩ := h.sl.shape
  go_enter Tryz.func118, Tryz.ntmps118
  go_wp2_with (go_at_call 58; refine (clone_any _ bs _ h.sl hl).mono ?_; rintro e w' ⟨v', rfl, hown, hb⟩)
  go_ret
  exact ⟨_, rfl, hown, hb⟩

/-- Behind the append of bytes: the row and the field. -/
theorem put_many {wr w1 : World} {T base B : Nat} {vv v' : Value} {cur news : List UInt8} (h : Wr wr T base B vv cur) (hT : T ≠ 5)
    (hown : w1.ownsRow base 5 1 v' (cur.length + news.length) (cells8 cur ++ cells8 news)) (hg : wr.grownBy w1 vv.ownBlock) (hat : v'.ownBlock = vv.ownBlock ∨ v'.ownBlock = some wr.heap.size) :
    (∃ ao cap, v' = .slice ao (cur.length + news.length) cap) ∧ w1.cell? ⟨B, 0, none⟩ = some vv ∧ w1.frozen? ⟨B, 0, none⟩ = false ∧
    Hid (Wr (w1.setCell ⟨B, 0, none⟩ v') T base B v' (cur ++ news) ∧ Wrote wr (w1.setCell ⟨B, 0, none⟩ v') B vv.ownBlock ∧ Moved wr vv v') := by
  have hB1 : w1.heap[B]? = some (.cells #[vv] T (0, 0)) := by rw [hg.block B h.lt (h.ne hT)]; exact h.1
  have hm : Moved wr vv v' := by
    rcases hat with e | e
    · exact Or.inl e
    · exact Or.inr ⟨_, e, by omega⟩
  refine ⟨?_, cell_of_one hB1, free_of_one hB1, Wr.put h hT hown hg hm⟩
  rcases hown.2 with ⟨e, e0⟩ | ⟨g, cap, _, e, _⟩
  · exact ⟨none, 0, by rw [e, e0]⟩
  · exact ⟨_, cap, e⟩

theorem sl_news {w : World} {a : Addr} {cap : Nat} {bs : List UInt8} (h : Sl w (.slice (some a) bs.length cap) bs) : ∀ j u, (cells8 bs)[j]? = some u → w.cell? (a.add j) = some u := by
  intro j u hj
  have hjl : j < bs.length := by have := (List.getElem?_eq_some_iff.1 hj).1; simpa [cells8_len] using this
  obtain ⟨g, off, ha, hc⟩ := h.cell (by omega)
  simp only [Option.some.injEq] at ha
  subst ha
  rw [Addr.add_lit, hc j hjl, ← hj, cells8_at _ _ hjl]

set_option maxHeartbeats 1000000 in
theorem wtext_some (base B : Nat) (v : Value) (a : Addr) (cap : Nat) (bs t : List UInt8) (w : World) (h : Wr w 169 base B v bs) (hbase : base ≤ w.heap.size) (hsep : ∀ w', Wrote w w' B v.ownBlock → Sl w' (.slice (some a) t.length cap) t) (hl : bs.length + 10 + t.length ≤ 140737488355328) :
    Calls Tryz.prog 136 #[.pointer (some ⟨B, 0, none⟩), .slice (some a) t.length cap] w fun e w' => e = .returned (.tuple #[]) ∧ ∃ v', Wr w' 169 base B v' (bs ++ (enc t.length ++ t)) ∧ Wrote w w' B v.ownBlock ∧ Moved w v v' := by
  obtain ⟨i, hi, hz0, hz1, hz2⟩ := info_parts Tryz.info5
  go_enter Tryz.func136, Tryz.ntmps136
  go_wp2_with fail
  refine (wnum_any base B v bs t.length w h hbase (by omega) (by omega) (by omega)).mono ?_
  rintro e w1 ⟨rfl, v1, hW1, hw1, hm1⟩
  have ht1 := hsep w1 hw1
  obtain ⟨c0, f0⟩ := one_cell hW1.1
  have hb1 : base ≤ w1.heap.size := Nat.le_trans hbase hw1.size
  have hle := enc_le t.length
  have hlen1 : (bs ++ enc t.length).length ≤ bs.length + 10 := by rw [List.length_append]; omega
  go_wp2_with (at_builtin; refine wpList_append_own_at _ rfl _ _ 33 rfl base 5 i (.int .u8 0) 1 1 Tryz.underlying33 hi hz0 hz1 hz2 rfl (by decide) v1 _ _ rfl hW1.2 a t.length cap (cells8 t) rfl (by rw [cells8_len, Nat.mul_one]) (sl_news ht1) (cells8_one t) (by simp only [maxLen]; omega) (by omega) hb1 ?_)
  intro v' w2 hown' hgrow _ hat
  obtain ⟨⟨ao', cap', rfl⟩, c0', f0', HW⟩ := put_many (news := t) hW1 (by decide) (by rw [List.length_append]; exact hown') hgrow hat
  rw [List.length_append] at HW
  clear hown' hgrow hat c0 f0
  go_wp2
  go_end0
  refine ⟨rfl, _, ?_, hw1.trans hm1 HW.out.2.1, hm1.trans HW.out.2.2 hw1.size⟩
  rw [← List.append_assoc]
  exact HW.out.1

set_option maxHeartbeats 1000000 in
theorem wtext_none (base B : Nat) (v : Value) (bs : List UInt8) (w : World) (h : Wr w 169 base B v bs) (hbase : base ≤ w.heap.size) (hl : bs.length + 10 ≤ 140737488355328) :
    Calls Tryz.prog 136 #[.pointer (some ⟨B, 0, none⟩), .slice none 0 0] w fun e w' => e = .returned (.tuple #[]) ∧ ∃ v', Wr w' 169 base B v' (bs ++ enc 0) ∧ Wrote w w' B v.ownBlock ∧ Moved w v v' := by
  obtain ⟨i, hi, hz0, hz1, hz2⟩ := info_parts Tryz.info5
  go_enter Tryz.func136, Tryz.ntmps136
  go_wp2_with fail
  refine (wnum_any base B v bs 0 w h hbase (by omega) (by omega) (by omega)).mono ?_
  rintro e w1 ⟨rfl, v1, hW1, hw1, hm1⟩
  obtain ⟨c0, f0⟩ := one_cell hW1.1
  have HW : Hid (_) := Wr.put (news := []) hW1 (by decide) (by rw [List.length_nil, Nat.add_zero, show cells8 [] = [] from rfl, List.append_nil]; exact hW1.2) (grown_refl _ _) (Moved.refl _ _)
  rw [List.append_nil] at HW
  generalize hE : bs ++ enc 0 = E at hW1 HW c0
  have HE : Hid (bs ++ enc 0 = E) := hE
  clear hE
  obtain ⟨ao1, cap1, rfl, _, _⟩ := hW1.sl.shape
  go_wp2_with (at_builtin; refine wpList_append_own_none rfl _ _ 33 rfl base 5 i 1 Tryz.underlying33 hi _ _ _ rfl hW1.2 rfl ?_)
  go_end0
  exact ⟨rfl, _, by rw [HE.out]; exact HW.out.1, hw1.trans hm1 HW.out.2.1, hm1.trans HW.out.2.2 hw1.size⟩

theorem wtext_any (base B : Nat) (v vt : Value) (bs t : List UInt8) (w : World) (h : Wr w 169 base B v bs) (hbase : base ≤ w.heap.size) (ht : Sl w vt t) (hsep : ∀ w', Wrote w w' B v.ownBlock → Sl w' vt t) (hl : bs.length + 10 + t.length ≤ 140737488355328) :
    Calls Tryz.prog 136 #[.pointer (some ⟨B, 0, none⟩), vt] w fun e w' => e = .returned (.tuple #[]) ∧ ∃ v', Wr w' 169 base B v' (bs ++ (enc t.length ++ t)) ∧ Wrote w w' B v.ownBlock ∧ Moved w v v' := by
  obtain ⟨ao, cap, rfl, h1, h2, h3, h4⟩ := ht
  cases ao with
  | some a => exact wtext_some base B v a cap bs t w h hbase hsep hl
  | none =>
    have hc := h3 rfl
    have e : t = [] := List.eq_nil_of_length_eq_zero (by omega)
    subst e hc
    have := wtext_none base B v bs w h hbase (by omega)
    simpa using this
end Go.Proofs.YtjndgekpdmlbiaaGreatDoor.Bn
namespace Go.Proofs.YtjndgekpdmlbiaaGreatDoor.Bn
open Go.RowKit

set_option maxRecDepth 8000 in
set_option maxHeartbeats 1000000 in
theorem wflag_any (base B : Nat) (v : Value) (bs : List UInt8) (b : Bool) (w : World) (h : Wr w 169 base B v bs) (hbase : base ≤ w.heap.size) (hl : bs.length + 1 ≤ 140737488355328) :
    Calls Tryz.prog 114 #[.pointer (some ⟨B, 0, none⟩), .bool b] w fun e w' => e = .returned (.tuple #[]) ∧ ∃ v', Wr w' 169 base B v' (bs ++ [if b then 1 else 0]) ∧ Wrote w w' B v.ownBlock ∧ Moved w v v' := by
  obtain ⟨i, hi, hz0, hz1, hz2⟩ := info_parts Tryz.info5
  obtain ⟨c0, f0⟩ := one_cell h.1
  have hBl := h.lt
  cases b
  · go_enter Tryz.func114, Tryz.ntmps114
    go_wp2_with (at_builtin; refine wpList_append_own_at _ rfl _ _ 33 rfl base 5 i (.int .u8 0) 1 1 Tryz.underlying33 hi hz0 hz1 hz2 rfl (by decide) v bs.length (cells8 bs) rfl (h.2.alloc _) ⟨w.heap.size, 0, none⟩ 1 1 [_] rfl rfl (cell_one_new _ _ _) (fun u hu => by simp at hu; subst hu; rfl) (by simp only [maxLen]; omega) (by omega) (by simp; omega) ?_)
    intro v' w1 hown' hgrow _ hat
    obtain ⟨⟨g', cap', rfl⟩, c0', f0', HW⟩ := put_one (b := 0) h (by decide) rfl _ hown' hgrow hat
    clear hown' hgrow hat c0 f0
    go_wp2
    go_end0
    exact ⟨rfl, _, HW.out⟩
  · go_enter Tryz.func114, Tryz.ntmps114
    go_wp2_with (at_builtin; refine wpList_append_own_at _ rfl _ _ 33 rfl base 5 i (.int .u8 0) 1 1 Tryz.underlying33 hi hz0 hz1 hz2 rfl (by decide) v bs.length (cells8 bs) rfl (h.2.alloc _) ⟨w.heap.size, 0, none⟩ 1 1 [_] rfl rfl (cell_one_new _ _ _) (fun u hu => by simp at hu; subst hu; rfl) (by simp only [maxLen]; omega) (by omega) (by simp; omega) ?_)
    intro v' w1 hown' hgrow _ hat
    obtain ⟨⟨g', cap', rfl⟩, c0', f0', HW⟩ := put_one (b := 1) h (by decide) rfl _ hown' hgrow hat
    clear hown' hgrow hat c0 f0
    go_wp2
    go_end0
    exact ⟨rfl, _, HW.out⟩

set_option maxHeartbeats 400000 in
theorem rflag_none (B : Nat) (w : World) (h : Rd w 164 B none) :
    Calls Tryz.prog 83 #[.pointer (some ⟨B, 0, none⟩)] w fun e w' => e = .returned (.bool false) ∧ Rd w' 164 B none ∧ w.grownBy w' (some B) := by
  go_enter Tryz.func83, Tryz.ntmps83
  go_wp2_with (go_at_call 84; refine (ok_any B none _ h).mono ?_; rintro e w' ⟨rfl, rfl⟩)
  go_ret
  exact ⟨rfl, h, grown_refl _ _⟩

set_option maxHeartbeats 400000 in
theorem rflag_empty (B : Nat) (w : World) (h : Rd w 164 B (some [])) :
    Calls Tryz.prog 83 #[.pointer (some ⟨B, 0, none⟩)] w fun e w' => e = .returned (.bool false) ∧ Rd w' 164 B none ∧ w.grownBy w' (some B) := by
  have H := h
  obtain ⟨v, hB, hv, _, _⟩ := h
  obtain ⟨ao, cap, rfl, _, _⟩ := hv.shape
  obtain ⟨c0, c1, f0, f1⟩ := two_cells hB
  clear hB hv
  go_enter Tryz.func83, Tryz.ntmps83
  go_wp2_with (first
    | (go_at_call 84; refine (ok_any B (some []) _ H).mono ?_; rintro e w' ⟨rfl, rfl⟩)
    | (go_at_call 108; refine (fail_any B (some []) _ H).mono ?_; rintro e w' ⟨rfl, hr', hg'⟩))
  go_ret
  exact ⟨rfl, hr', hg'⟩

set_option maxHeartbeats 400000 in
theorem rflag_cons (B : Nat) (b : UInt8) (r : List UInt8) (w : World) (h : Rd w 164 B (some (b :: r))) :
    Calls Tryz.prog 83 #[.pointer (some ⟨B, 0, none⟩)] w fun e w' => e = .returned (.bool (rFlag (some (b :: r))).1) ∧ Rd w' 164 B (rFlag (some (b :: r))).2 ∧ w.grownBy w' (some B) := by
  have H := h
  obtain ⟨v, hB, hv, hp, hlim⟩ := h
  have hlim' : (b :: r).length ≤ 140737488355328 := hlim
  obtain ⟨ao, cap, rfl, hc1, _⟩ := hv.shape
  obtain ⟨c0, c1, f0, f1⟩ := two_cells hB
  obtain ⟨g, off, rfl, hcell⟩ := hv.cell (by simp)
  have hx := hcell 0 (by simp)
  rw [Nat.add_zero, show at8 ((some (b :: r)).getD []) 0 = (b.toNat : Int) from rfl] at hx
  have hb2 : (b.toNat : Int) ≤ 255 := by have := UInt8.toNat_lt b; omega
  have hb0 : 0 ≤ (b.toNat : Int) := by omega
  have hcap : r.length + 1 ≤ cap := hc1
  have hne : (((r.length : Int) + 1) == 0) = false := by rw [beq_eq_false_iff_ne]; omega
  have HP : Hid (_) := Rd.put hB hv (sl_rest hv 1 (by simp)).1 (sl_rest hv 1 (by simp)).2 (by rw [List.length_drop]; omega)
  clear hB hv hcell hp hlim
  simp only [rFlag]
  by_cases h1 : 1 < b.toNat
  · rw [if_pos h1]
    have h1' : (1 : Int) < (b.toNat : Int) := by omega
    go_enter Tryz.func83, Tryz.ntmps83
    go_wp2_with (first
      | (go_at_call 84; refine (ok_any B (some (b :: r)) _ H).mono ?_; rintro e w' ⟨rfl, rfl⟩)
      | (go_at_call 108; refine (fail_any B (some (b :: r)) _ H).mono ?_; rintro e w' ⟨rfl, hr', hg'⟩))
    go_ret
    exact ⟨rfl, hr', hg'⟩
  · rw [if_neg h1]
    have h1' : ¬ (1 : Int) < (b.toNat : Int) := by omega
    have HE : Hid (((b.toNat : Int) == 1) = (b == 1)) := by
      show _ = _
      rw [Bool.eq_iff_iff, beq_iff_eq, beq_iff_eq, ← UInt8.toNat_inj]
      show _ ↔ b.toNat = 1
      omega
    go_enter Tryz.func83, Tryz.ntmps83
    go_wp2_with (first
      | (go_at_call 84; refine (ok_any B (some (b :: r)) _ H).mono ?_; rintro e w' ⟨rfl, rfl⟩))
    all_goals go_ret
    · have hp := HP.out
      rw [if_pos (by assumption), show cap - 1 = 0 by omega] at hp
      exact ⟨congrArg (fun x => Ending.returned (.bool x)) HE.out, hp⟩
    · have hp := HP.out
      rw [if_neg (by assumption)] at hp
      exact ⟨congrArg (fun x => Ending.returned (.bool x)) HE.out, hp⟩

theorem rflag_any (B : Nat) (st : Option (List UInt8)) (w : World) (h : Rd w 164 B st) :
    Calls Tryz.prog 83 #[.pointer (some ⟨B, 0, none⟩)] w fun e w' => e = .returned (.bool (rFlag st).1) ∧ Rd w' 164 B (rFlag st).2 ∧ w.grownBy w' (some B) := by
  match st, h with
  | none, h => exact rflag_none B w h
  | some [], h => exact rflag_empty B w h
  | some (b :: r), h => exact rflag_cons B b r w h

end Go.Proofs.YtjndgekpdmlbiaaGreatDoor.Bn
namespace Go.Proofs.YtjndgekpdmlbiaaGreatDoor.Dk
open Go.Lib

theorem cmp_self : ∀ a : List UInt8, compareBytes a a = 0
  | [] => rfl
  | x :: a => by simp [compareBytes, UInt8.lt_irrefl, cmp_self a]

theorem cmp_zero : ∀ a b : List UInt8, compareBytes a b = 0 → a = b
  | [], [], _ => rfl
  | [], _ :: _, h => by simp [compareBytes] at h
  | _ :: _, [], h => by simp [compareBytes] at h
  | x :: a, y :: b, h => by
    unfold compareBytes at h
    by_cases h1 : x < y
    · simp [h1] at h
    · by_cases h2 : y < x
      · simp [h1, h2] at h
      · simp only [h1, h2, if_false] at h
        have e : x = y := UInt8.le_antisymm (UInt8.not_lt.1 h2) (UInt8.not_lt.1 h1)
        rw [e, cmp_zero a b h]

theorem cmp_swap : ∀ a b : List UInt8, compareBytes b a = - compareBytes a b
  | [], [] => rfl
  | [], _ :: _ => rfl
  | _ :: _, [] => rfl
  | x :: a, y :: b => by
    unfold compareBytes
    by_cases h1 : x < y
    · have h2 : ¬ y < x := fun h => UInt8.lt_irrefl x (UInt8.lt_trans h1 h)
      simp [h1, h2]
    · by_cases h2 : y < x
      · simp [h1, h2]
      · simp only [h1, h2, if_false]
        exact cmp_swap a b

theorem cmp_trans : ∀ a b c : List UInt8, compareBytes a b < 0 → compareBytes b c < 0 → compareBytes a c < 0
  | _, [], [], _, h => by simp [compareBytes] at h
  | [], _, _ :: _, _, _ => by simp [compareBytes]
  | _ :: _, [], _ :: _, h, _ => by simp [compareBytes] at h
  | _, _ :: _, [], _, h => by simp [compareBytes] at h
  | x :: a, y :: b, z :: c, h, k => by
    unfold compareBytes at h k ⊢
    by_cases h1 : x < y
    · by_cases k1 : y < z
      · simp [UInt8.lt_trans h1 k1]
      · by_cases k2 : z < y
        · simp [k1, k2] at k
        · have e : y = z := UInt8.le_antisymm (UInt8.not_lt.1 k2) (UInt8.not_lt.1 k1)
          subst e
          simp [h1]
    · by_cases h2 : y < x
      · simp [h1, h2] at h
      · have e : x = y := UInt8.le_antisymm (UInt8.not_lt.1 h2) (UInt8.not_lt.1 h1)
        subst e
        simp only [UInt8.lt_irrefl, if_false] at h
        by_cases k1 : x < z
        · simp [k1]
        · by_cases k2 : z < x
          · simp [k1, k2] at k
          · simp only [k1, k2, if_false] at k ⊢
            exact cmp_trans a b c h k

/-- The order of names. -/
def cmpN (a b : ByteArray) : Int := compareBytes a.data.toList b.data.toList
def nlt (a b : ByteArray) : Prop := cmpN a b < 0
theorem cmpN_eq {a b : ByteArray} : cmpN a b = 0 ↔ a = b := by
  constructor
  · intro h
    have := cmp_zero _ _ h
    obtain ⟨⟨la⟩⟩ := a
    obtain ⟨⟨lb⟩⟩ := b
    simp at this
    rw [this]
  · rintro rfl
    exact cmp_self _
theorem cmpN_swap (a b : ByteArray) : cmpN b a = - cmpN a b := cmp_swap _ _
theorem nlt_irrefl (a : ByteArray) : ¬ nlt a a := by
  unfold nlt
  rw [cmpN_eq.2 rfl]
  omega
theorem nlt_trans {a b c : ByteArray} (h : nlt a b) (k : nlt b c) : nlt a c := cmp_trans _ _ _ h k
theorem nlt_ne {a b : ByteArray} (h : nlt a b) : a ≠ b := fun e => nlt_irrefl b (e ▸ h)
theorem nlt_asymm {a b : ByteArray} (h : nlt a b) : ¬ nlt b a := fun k => nlt_irrefl a (nlt_trans h k)
theorem nlt_total (a b : ByteArray) : nlt a b ∨ a = b ∨ nlt b a := by
  unfold nlt
  rcases Int.lt_trichotomy (cmpN a b) 0 with h | h | h
  · exact Or.inl h
  · exact Or.inr (Or.inl (cmpN_eq.1 h))
  · exact Or.inr (Or.inr (by rw [cmpN_swap a b]; omega))
instance (a b : ByteArray) : Decidable (nlt a b) := inferInstanceAs (Decidable (cmpN a b < 0))

/-- A file. -/
structure Fl where
  name : ByteArray
  bs : List UInt8

def Srt (fs : List Fl) : Prop := fs.Pairwise fun a b => nlt a.name b.name

def ins (f : Fl) : List Fl → List Fl
  | [] => [f]
  | x :: r => if nlt f.name x.name then f :: x :: r else x :: ins f r
def del (n : ByteArray) (fs : List Fl) : List Fl := fs.filter fun f => !decide (f.name = n)
def look (n : ByteArray) (fs : List Fl) : Option Fl := fs.find? fun f => decide (f.name = n)
/-- The bytes of all files. -/
def used (fs : List Fl) : Nat := (fs.map fun f => f.bs.length).sum
/-- Files and bytes. -/
def mass (fs : List Fl) : Nat := (fs.map fun f => f.bs.length + 1).sum

theorem mass_append (a b : List Fl) : mass (a ++ b) = mass a + mass b := by simp [mass]
theorem mass_cons (f : Fl) (b : List Fl) : mass (f :: b) = f.bs.length + 1 + mass b := by simp [mass]
theorem mass_nil : mass [] = 0 := rfl
theorem used_append (a b : List Fl) : used (a ++ b) = used a + used b := by simp [used]
theorem used_cons (f : Fl) (b : List Fl) : used (f :: b) = f.bs.length + used b := by simp [used]
theorem used_mass : ∀ fs : List Fl, used fs + fs.length = mass fs
  | [] => rfl
  | f :: r => by
    have := used_mass r
    rw [used_cons, mass_cons, List.length_cons]
    omega

/-- Where a name stands among files, or would. -/
def Hit (n : ByteArray) (fs l : List Fl) (f : Fl) (r : List Fl) : Prop := fs = l ++ f :: r ∧ f.name = n ∧ (∀ x ∈ l, nlt x.name n) ∧ ∀ x ∈ r, nlt n x.name
def Miss (n : ByteArray) (fs l r : List Fl) : Prop := fs = l ++ r ∧ (∀ x ∈ l, nlt x.name n) ∧ ∀ x ∈ r, nlt n x.name

theorem split (n : ByteArray) : ∀ fs : List Fl, Srt fs → (∃ l f r, Hit n fs l f r) ∨ ∃ l r, Miss n fs l r
  | [], _ => Or.inr ⟨[], [], rfl, by simp, by simp⟩
  | x :: fs, h => by
    have hx := (List.pairwise_cons.1 h).1
    rcases nlt_total x.name n with h1 | h1 | h1
    · rcases split n fs (List.pairwise_cons.1 h).2 with ⟨l, f, r, rfl, hf, hl, hr⟩ | ⟨l, r, rfl, hl, hr⟩
      · exact Or.inl ⟨x :: l, f, r, rfl, hf, by simpa using ⟨h1, hl⟩, hr⟩
      · exact Or.inr ⟨x :: l, r, rfl, by simpa using ⟨h1, hl⟩, hr⟩
    · exact Or.inl ⟨[], x, fs, rfl, h1, by simp, fun y hy => h1 ▸ hx y hy⟩
    · exact Or.inr ⟨[], x :: fs, rfl, by simp, fun y hy => by
        rcases List.mem_cons.1 hy with rfl | hy
        · exact h1
        · exact nlt_trans h1 (hx y hy)⟩

theorem del_front (n : ByteArray) (l r : List Fl) (h : ∀ x ∈ l, nlt x.name n) : del n (l ++ r) = l ++ del n r := by
  unfold del
  rw [List.filter_append]
  congr 1
  exact List.filter_eq_self.2 fun x hx => by simp [nlt_ne (h x hx)]
theorem del_back (n : ByteArray) (r : List Fl) (h : ∀ x ∈ r, nlt n x.name) : del n r = r :=
  List.filter_eq_self.2 fun x hx => by simpa using (nlt_ne (h x hx)).symm
theorem look_front (n : ByteArray) (r : List Fl) : ∀ l : List Fl, (∀ x ∈ l, nlt x.name n) → look n (l ++ r) = look n r
  | [], _ => rfl
  | x :: l, h => by
    have := look_front n r l (fun y hy => h y (by simp [hy]))
    unfold look at this ⊢
    rw [List.cons_append, List.find?_cons]
    simp [nlt_ne (h x (by simp)), this]
theorem look_back (n : ByteArray) (r : List Fl) (h : ∀ x ∈ r, nlt n x.name) : look n r = none :=
  List.find?_eq_none.2 fun x hx => by simpa using (nlt_ne (h x hx)).symm
theorem ins_front (f : Fl) (r : List Fl) : ∀ l : List Fl, (∀ x ∈ l, nlt x.name f.name) → ins f (l ++ r) = l ++ ins f r
  | [], _ => rfl
  | x :: l, h => by
    have h1 : ¬ nlt f.name x.name := nlt_asymm (h x (by simp))
    rw [List.cons_append, ins, if_neg h1, ins_front f r l (fun y hy => h y (by simp [hy]))]
    rfl
theorem ins_back (f : Fl) (r : List Fl) (h : ∀ x ∈ r, nlt f.name x.name) : ins f r = f :: r := by
  cases r with
  | nil => rfl
  | cons x r => rw [ins, if_pos (h x (by simp))]
theorem ins_mid (f : Fl) (l r : List Fl) (hl : ∀ x ∈ l, nlt x.name f.name) (hr : ∀ x ∈ r, nlt f.name x.name) : ins f (l ++ r) = l ++ f :: r := by
  rw [ins_front f r l hl, ins_back f r hr]

theorem Hit.lookE {n : ByteArray} {fs l : List Fl} {f : Fl} {r : List Fl} (h : Hit n fs l f r) : look n fs = some f := by
  obtain ⟨rfl, hf, hl, hr⟩ := h
  rw [look_front n _ l hl]
  simp [look, hf]
theorem Hit.delE {n : ByteArray} {fs l : List Fl} {f : Fl} {r : List Fl} (h : Hit n fs l f r) : del n fs = l ++ r := by
  obtain ⟨rfl, hf, hl, hr⟩ := h
  rw [del_front n l _ hl]
  congr 1
  have := del_back n r hr
  unfold del at this ⊢
  rw [List.filter_cons]
  simp only [hf, decide_true, Bool.not_true, Bool.false_eq_true, if_false]
  exact this
theorem Hit.insE {n : ByteArray} {fs l : List Fl} {f : Fl} {r : List Fl} (h : Hit n fs l f r) (b : List UInt8) : ins ⟨n, b⟩ (del n fs) = l ++ ⟨n, b⟩ :: r := by
  rw [h.delE]
  exact ins_mid ⟨n, b⟩ l r h.2.2.1 h.2.2.2
theorem Miss.lookE {n : ByteArray} {fs l r : List Fl} (h : Miss n fs l r) : look n fs = none := by
  obtain ⟨rfl, hl, hr⟩ := h
  rw [look_front n _ l hl, look_back n r hr]
theorem Miss.delE {n : ByteArray} {fs l r : List Fl} (h : Miss n fs l r) : del n fs = fs := by
  obtain ⟨rfl, hl, hr⟩ := h
  rw [del_front n l _ hl, del_back n r hr]
theorem Miss.insE {n : ByteArray} {fs l r : List Fl} (h : Miss n fs l r) (b : List UInt8) : ins ⟨n, b⟩ fs = l ++ ⟨n, b⟩ :: r := by
  obtain ⟨rfl, hl, hr⟩ := h
  exact ins_mid ⟨n, b⟩ l r hl hr

/-- A change. -/
inductive Ch where
  | app (n : ByteArray) (b : List UInt8)
  | cut (n : ByteArray) (k : Nat)
  | rem (n : ByteArray)
  | mov (n t : ByteArray)

def Ch.mass : Ch → Nat
  | .app _ b => b.length + 1
  | _ => 0

def ap (fs : List Fl) : Ch → List Fl
  | .app n b => ins ⟨n, ((look n fs).map (·.bs)).getD [] ++ b⟩ (del n fs)
  | .cut n k => match look n fs with
    | some f => ins ⟨n, f.bs.take k⟩ (del n fs)
    | none => fs
  | .rem n => del n fs
  | .mov n t => match look n fs with
    | some f => if n = t then fs else ins ⟨t, f.bs⟩ (del t (del n fs))
    | none => fs

/-- May a change be made? -/
def Okc (fs : List Fl) : Ch → Prop
  | .cut n k => ∀ f, look n fs = some f → k ≤ f.bs.length
  | _ => True
def Okw (fs : List Fl) : List Ch → Prop
  | [] => True
  | c :: r => Okc fs c ∧ Okw (ap fs c) r

def run (fs : List Fl) (cs : List Ch) : List Fl := cs.foldl ap fs
def wmass (cs : List Ch) : Nat := (cs.map Ch.mass).sum

theorem srt_mid {l r : List Fl} {n : ByteArray} {b : List UInt8} (h : Srt (l ++ r)) (hl : ∀ x ∈ l, nlt x.name n) (hr : ∀ x ∈ r, nlt n x.name) : Srt (l ++ ⟨n, b⟩ :: r) := by
  unfold Srt at h ⊢
  rw [List.pairwise_append] at h ⊢
  refine ⟨h.1, List.pairwise_cons.2 ⟨hr, h.2.1⟩, fun a ha c hc => ?_⟩
  rcases List.mem_cons.1 hc with rfl | hc
  · exact hl a ha
  · exact h.2.2 a ha c hc
theorem srt_out {l r : List Fl} {f : Fl} (h : Srt (l ++ f :: r)) : Srt (l ++ r) :=
  List.Pairwise.sublist (by simp) h
theorem srt_del {fs : List Fl} (n : ByteArray) (h : Srt fs) : Srt (del n fs) := List.Pairwise.filter _ h
theorem srt_ins {fs : List Fl} (n : ByteArray) (b : List UInt8) (h : Srt fs) : Srt (ins ⟨n, b⟩ (del n fs)) := by
  rcases split n fs h with ⟨l, f, r, hh⟩ | ⟨l, r, hm⟩
  · rw [hh.insE]
    obtain ⟨rfl, hf, hl, hr⟩ := hh
    exact srt_mid (srt_out h) hl hr
  · rw [hm.delE, hm.insE]
    obtain ⟨rfl, hl, hr⟩ := hm
    exact srt_mid h hl hr
theorem del_mass (n : ByteArray) (fs : List Fl) : mass (del n fs) ≤ mass fs := by
  induction fs with
  | nil => exact Nat.le_refl _
  | cons x r ih =>
    unfold del at ih ⊢
    rw [List.filter_cons]
    split
    · rw [mass_cons, mass_cons]; omega
    · rw [mass_cons]; omega
theorem ins_mass (n : ByteArray) (b : List UInt8) (fs : List Fl) (h : Srt fs) : mass (ins ⟨n, b⟩ (del n fs)) ≤ mass fs + b.length + 1 := by
  rcases split n fs h with ⟨l, f, r, hh⟩ | ⟨l, r, hm⟩
  · rw [hh.insE]
    obtain ⟨rfl, hf, hl, hr⟩ := hh
    rw [mass_append, mass_cons, mass_append, mass_cons]
    simp only
    omega
  · rw [hm.delE, hm.insE]
    obtain ⟨rfl, hl, hr⟩ := hm
    rw [mass_append, mass_cons, mass_append]
    simp only
    omega

theorem ap_srt {fs : List Fl} (c : Ch) (h : Srt fs) : Srt (ap fs c) := by
  cases c with
  | app n b => exact srt_ins n _ h
  | cut n k =>
    simp only [ap]
    split
    · exact srt_ins n _ h
    · exact h
  | rem n => exact srt_del n h
  | mov n t =>
    simp only [ap]
    split
    · split
      · exact h
      · exact srt_ins t _ (srt_del n h)
    · exact h
theorem ap_mass {fs : List Fl} (c : Ch) (h : Srt fs) : mass (ap fs c) ≤ mass fs + c.mass := by
  cases c with
  | app n b =>
    simp only [ap, Ch.mass]
    rcases split n fs h with ⟨l, f, r, hh⟩ | ⟨l, r, hm⟩
    · rw [hh.insE, hh.lookE]
      obtain ⟨rfl, hf, hl, hr⟩ := hh
      simp only [mass_append, mass_cons, Option.map_some, Option.getD_some, List.length_append]
      omega
    · rw [hm.lookE, hm.delE, hm.insE]
      obtain ⟨rfl, hl, hr⟩ := hm
      simp only [mass_append, mass_cons, Option.map_none, Option.getD_none, List.nil_append]
      omega
  | cut n k =>
    simp only [ap, Ch.mass]
    rcases split n fs h with ⟨l, f, r, hh⟩ | ⟨l, r, hm⟩
    · rw [hh.lookE]
      simp only [hh.insE]
      obtain ⟨rfl, hf, hl, hr⟩ := hh
      simp only [mass_append, mass_cons, List.length_take]
      omega
    · rw [hm.lookE]
      simp
  | rem n => exact del_mass n fs
  | mov n t =>
    simp only [ap, Ch.mass]
    rcases split n fs h with ⟨l, f, r, hh⟩ | ⟨l, r, hm⟩
    · rw [hh.lookE]
      simp only
      split
      · simp
      · have h1 := ins_mass t f.bs (del n fs) (srt_del n h)
        rw [hh.delE] at h1 ⊢
        obtain ⟨rfl, hf, hl, hr⟩ := hh
        rw [mass_append] at h1
        rw [mass_append, mass_cons]
        omega
    · rw [hm.lookE]
      simp
theorem run_cons (fs : List Fl) (c : Ch) (cs : List Ch) : run fs (c :: cs) = run (ap fs c) cs := rfl
theorem run_snoc (fs : List Fl) (cs : List Ch) (c : Ch) : run fs (cs ++ [c]) = ap (run fs cs) c := by simp [run]
theorem run_srt (cs : List Ch) : ∀ fs : List Fl, Srt fs → Srt (run fs cs) := by
  induction cs with
  | nil => exact fun _ h => h
  | cons c r ih => exact fun fs h => ih _ (ap_srt c h)
theorem run_mass (cs : List Ch) : ∀ fs : List Fl, Srt fs → mass (run fs cs) ≤ mass fs + wmass cs := by
  induction cs with
  | nil => exact fun _ _ => by simp [run, wmass]
  | cons c r ih =>
    intro fs h
    have h1 := ih _ (ap_srt c h)
    have h2 := ap_mass c h
    have h3 : wmass (c :: r) = c.mass + wmass r := by simp [wmass]
    rw [run_cons]
    omega
theorem okw_snoc (c : Ch) : ∀ (cs : List Ch) (fs : List Fl), Okw fs cs → Okc (run fs cs) c → Okw fs (cs ++ [c])
  | [], _, _, h => ⟨h, trivial⟩
  | x :: r, fs, h, k => ⟨h.1, okw_snoc c r (ap fs x) h.2 k⟩
theorem okw_take : ∀ (k : Nat) (cs : List Ch) (fs : List Fl), Okw fs cs → ∀ c, cs[k]? = some c → Okc (run fs (cs.take k)) c
  | 0, x :: r, fs, h, c, hc => by
    simp at hc
    subst hc
    exact h.1
  | k + 1, x :: r, fs, h, c, hc => okw_take k r (ap fs x) h.2 c (by simpa using hc)
theorem wmass_take (cs : List Ch) (k : Nat) : wmass (cs.take k) ≤ wmass cs := by
  have := congrArg wmass (List.take_append_drop k cs)
  have h2 : wmass (cs.take k ++ cs.drop k) = wmass (cs.take k) + wmass (cs.drop k) := by unfold wmass; rw [List.map_append, List.sum_append]
  omega
theorem take_succ_snoc {α : Type} (cs : List α) (k : Nat) (c : α) (h : cs[k]? = some c) : cs.take (k + 1) = cs.take k ++ [c] := by
  rw [List.take_add_one, h]
  rfl
end Go.Proofs.YtjndgekpdmlbiaaGreatDoor.Dk

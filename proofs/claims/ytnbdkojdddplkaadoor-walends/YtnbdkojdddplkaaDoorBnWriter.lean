/- The walks of a writer: Num, Text, Flag, Bytes. -/
import Derived.Test.YtnbdkojdddplkaaDoorBnReaderMore
namespace Go.Proofs.YtnbdkojdddplkaaDoor.Bn
open Go.RowKit

theorem one_cell {w : World} {B T : Nat} {v : Value} (h : w.heap[B]? = some (.cells #[v] T (0, 0))) : w.cell? ⟨B, 0, none⟩ = some v ∧ w.frozen? ⟨B, 0, none⟩ = false := ⟨cell_of_one h, free_of_one h⟩

theorem byte_more (uu : Nat) (h : uu < 18446744073709551616) : bits .or .u8 (bits .and .u64 (uu : Int) 127 % 256) 128 = ((UInt8.ofNat (uu % 128 + 128)).toNat : Int) := by
  have h1 : bits .and .u64 (uu : Int) 127 = ((uu % 128 : Nat) : Int) := by
    have := u64_and_nat uu 127 h (by omega)
    rw [nat_mask7] at this
    exact this
  rw [h1, toNat_lo (by omega), Int.emod_eq_of_lt (by omega) (by omega), u8_or128_right _ (by omega) (by omega)]
  omega
theorem byte_last (uu : Nat) (h : uu < 128) : (uu : Int) = ((UInt8.ofNat uu).toNat : Int) := by
  rw [toNat_lo (by omega)]

/-- Behind the append of one byte: the row and the field. -/
theorem put_one {wr w1 : World} {T base B : Nat} {vv v' x : Value} {cur : List UInt8} {b : UInt8} (h : Wr wr T base B vv cur) (hT : T ≠ 5) (hx : x = .int .u8 (b.toNat : Int)) (o : Obj)
    (hown : w1.ownsRow base 5 1 v' (cur.length + 1) (cells8 cur ++ [x])) (hgrow : (wr.alloc o).grownBy w1 vv.ownBlock) (hat : v'.ownBlock = vv.ownBlock ∨ v'.ownBlock = some (wr.heap.size + 1)) :
    (∃ g cap, v' = .slice (some ⟨g, 0, none⟩) (cur.length + 1) cap) ∧ w1.cell? ⟨B, 0, none⟩ = some vv ∧ w1.frozen? ⟨B, 0, none⟩ = false ∧
    Hid (Wr (w1.setCell ⟨B, 0, none⟩ v') T base B v' (cur ++ [b]) ∧ Wrote wr (w1.setCell ⟨B, 0, none⟩ v') B vv.ownBlock ∧ Moved wr vv v') := by
  have hg : wr.grownBy w1 vv.ownBlock := (World.grownBy_alloc wr o vv.ownBlock).trans hgrow
  have hB1 : w1.heap[B]? = some (.cells #[vv] T (0, 0)) := by rw [hg.block B h.lt (h.ne hT)]; exact h.1
  have hm : Moved wr vv v' := by
    rcases hat with e | e
    · exact Or.inl e
    · exact Or.inr ⟨_, e, by omega⟩
  refine ⟨?_, cell_of_one hB1, free_of_one hB1, Wr.put h hT (news := [b]) (by rw [hx] at hown; exact hown) hg hm⟩
  rcases hown.2 with ⟨_, e⟩ | ⟨g, cap, _, e, _⟩
  · omega
  · exact ⟨g, cap, e⟩

set_option maxHeartbeats 1000000 in
theorem wnum_any (base B : Nat) (v : Value) (bs : List UInt8) (n : Int) (w : World) (h : Wr w 92 base B v bs) (hbase : base ≤ w.heap.size) (h0 : -9223372036854775808 ≤ n) (h1 : n ≤ 9223372036854775807) (hl : bs.length + 10 ≤ 140737488355328) :
    Calls Tryd.prog 54 #[.pointer (some ⟨B, 0, none⟩), .int .i64 n] w fun e w' => e = .returned (.tuple #[]) ∧ ∃ v', Wr w' 92 base B v' (bs ++ enc n) ∧ Wrote w w' B v.ownBlock ∧ Moved w v v' := by
  obtain ⟨i, hi, hz0, hz1, hz2⟩ := info_parts Tryd.info5
  go_enter Tryd.func54, Tryd.ntmps54
  go_wp2_with (go_at_call 74; refine (fold_any n _ h0 h1).mono ?_; rintro e w' ⟨rfl, hw⟩; have hw' := hw.symm; subst hw')
  go_loopw [4] (fun u wr => ∃ (f uu : Nat) (vv : Value) (cur : List UInt8), u = .int .u64 (uu : Int) ∧ Hid (uu < 2 * 128 ^ f) ∧ f ≤ 9 ∧ Wr wr 92 base B vv cur ∧ Hid (cur ++ encF f uu = bs ++ enc n) ∧ cur.length + f ≤ bs.length + 9 ∧ Wrote w wr B v.ownBlock ∧ Moved w v vv) (fun u _ => (intOf u).toNat)
  case atStart => exact ⟨9, zig n, v, bs, rfl, by have := zig_lt n h0 h1; show _ < _; omega, Nat.le_refl _, h, rfl, Nat.le_refl _, Wrote.refl _ _ _, Moved.refl _ _⟩
  case round =>
    obtain ⟨f, uu, vv, cur, rfl, HU, hf, hWr, HC, hlen, hwro, hmov⟩ := hrel
    obtain ⟨c0, f0⟩ := one_cell hWr.1
    have hsz := hwro.size
    have hBl := hWr.lt
    by_cases hx : 128 ≤ uu
    · have hx' : (127 : Int) < (uu : Int) := by omega
      go_wp2_with (at_builtin; refine wpList_append_own_at _ rfl (.tmp 15) (.tmp 20) 33 rfl base 5 i (.int .u8 0) 1 1 Tryd.underlying33 hi hz0 hz1 hz2 rfl (by decide) vv cur.length (cells8 cur) rfl (hWr.2.alloc _) ⟨wr.heap.size, 0, none⟩ 1 1 [_] rfl rfl (cell_one_new _ _ _) (fun u hu => by simp at hu; subst hu; rfl) (by simp only [maxLen]; omega) (by omega) (by simp; omega) ?_)
      intro v' w1 hown' hgrow _ hat
      have hu64 : uu < 18446744073709551616 := by
        have h2 := HU.out
        have := Nat.mul_le_mul_left 2 (Nat.pow_le_pow_right (show 0 < 128 by omega) hf)
        omega
      obtain ⟨⟨g', cap', rfl⟩, c0', f0', HW⟩ := put_one hWr (by decide) (congrArg (Value.int .u8) (byte_more uu hu64)) _ hown' hgrow hat
      clear hown' hgrow hat c0 f0
      go_wp2
      go_roundw
      case rel =>
        obtain ⟨f', rfl⟩ : ∃ f', f = f' + 1 := by
          cases f with
          | zero => have := HU.out; omega
          | succ f' => exact ⟨f', rfl⟩
        refine ⟨f', uu / 128, _, cur ++ [UInt8.ofNat (uu % 128 + 128)], ?_, div_lt HU.out, by omega, HW.out.1, ?_, by simp; omega, hwro.trans hmov HW.out.2.1, hmov.trans HW.out.2.2 hwro.size⟩
        · exact congrArg (Value.int .u64) (Int.natCast_ediv uu 128).symm
        · show _ = _
          rw [← HC.out, encF_more _ _ hx]; simp
      case measure => simp [intOf]; omega
    · have hx' : ¬ (127 : Int) < (uu : Int) := by omega
      go_wp2_with (at_builtin; refine wpList_append_own_at _ rfl (.tmp 30) (.tmp 33) 33 rfl base 5 i (.int .u8 0) 1 1 Tryd.underlying33 hi hz0 hz1 hz2 rfl (by decide) vv cur.length (cells8 cur) rfl (hWr.2.alloc _) ⟨wr.heap.size, 0, none⟩ 1 1 [_] rfl rfl (cell_one_new _ _ _) (fun u hu => by simp at hu; subst hu; rfl) (by simp only [maxLen]; omega) (by omega) (by simp; omega) ?_)
      intro v' w1 hown' hgrow _ hat
      obtain ⟨⟨g', cap', rfl⟩, c0', f0', HW⟩ := put_one hWr (by decide) (congrArg (Value.int .u8) (byte_last uu (by omega))) _ hown' hgrow hat
      clear hown' hgrow hat c0 f0
      go_wp2
      go_end0
      refine ⟨rfl, _, ?_, hwro.trans hmov HW.out.2.1, hmov.trans HW.out.2.2 hwro.size⟩
      have := HW.out.1
      rw [← HC.out, encF_last _ _ (by omega)]
      exact this

set_option maxHeartbeats 400000 in
theorem wnum_nil (n : Int) (w : World) :
    Calls Tryd.prog 54 #[.pointer none, .int .i64 n] w fun e w' => e = .returned (.tuple #[]) ∧ w' = w := by
  go_enter Tryd.func54, Tryd.ntmps54
  go_wp2
  try simp only [Exit.inBlock, Exit.then]
  exact bodyPost_ret (results_none rfl _ _ _) rfl ⟨rfl, rfl⟩

set_option maxHeartbeats 400000 in
theorem wtext_nil (v : Value) (w : World) :
    Calls Tryd.prog 55 #[.pointer none, v] w fun e w' => e = .returned (.tuple #[]) ∧ w' = w := by
  go_enter Tryd.func55, Tryd.ntmps55
  go_wp2
  try simp only [Exit.inBlock, Exit.then]
  exact bodyPost_ret (results_none rfl _ _ _) rfl ⟨rfl, rfl⟩

set_option maxHeartbeats 400000 in
theorem wbytes_nil (w : World) :
    Calls Tryd.prog 57 #[.pointer none] w fun e w' => e = .returned (.slice none 0 0) ∧ w' = w := by
  go_enter Tryd.func57, Tryd.ntmps57
  go_wp2
  go_ret
  exact ⟨rfl, rfl⟩

set_option maxHeartbeats 400000 in
theorem wbytes_any (base B : Nat) (v : Value) (bs : List UInt8) (w : World) (h : Wr w 92 base B v bs) (hl : bs.length ≤ 140737488355328) :
    Calls Tryd.prog 57 #[.pointer (some ⟨B, 0, none⟩)] w fun e w' => ∃ v', e = .returned v' ∧ w'.ownsRow w.heap.size 5 1 v' bs.length (cells8 bs) ∧ Below w.heap.size w w' := by
  obtain ⟨c0, f0⟩ := one_cell h.1
  obtain ⟨ao, cap, rfl, _, _⟩ := h.sl.shape
  go_enter Tryd.func57, Tryd.ntmps57
  go_wp2_with (go_at_call 34; refine (clone_any _ bs _ h.sl hl).mono ?_; rintro e w' ⟨v', rfl, hown, hb⟩)
  go_ret
  exact ⟨_, rfl, hown, hb⟩

/-- Behind the append of bytes: the row and the field. -/
theorem put_many {wr w1 : World} {T base B : Nat} {vv v' : Value} {cur news : List UInt8} (h : Wr wr T base B vv cur) (hT : T ≠ 5)
    (hown : w1.ownsRow base 5 1 v' (cur.length + news.length) (cells8 cur ++ cells8 news)) (hg : wr.grownBy w1 vv.ownBlock) (hat : v'.ownBlock = vv.ownBlock ∨ v'.ownBlock = some wr.heap.size) :
    (∃ ao cap, v' = .slice ao (cur.length + news.length) cap) ∧ w1.cell? ⟨B, 0, none⟩ = some vv ∧ w1.frozen? ⟨B, 0, none⟩ = false ∧
    Hid (Wr (w1.setCell ⟨B, 0, none⟩ v') T base B v' (cur ++ news) ∧ Wrote wr (w1.setCell ⟨B, 0, none⟩ v') B vv.ownBlock ∧ Moved wr vv v') := by
  have hB1 : w1.heap[B]? = some (.cells #[vv] T (0, 0)) := by rw [hg.block B h.lt (h.ne hT)]; exact h.1
  have hm : Moved wr vv v' := by
    rcases hat with e | e
    · exact Or.inl e
    · exact Or.inr ⟨_, e, by omega⟩
  refine ⟨?_, cell_of_one hB1, free_of_one hB1, Wr.put h hT hown hg hm⟩
  rcases hown.2 with ⟨e, e0⟩ | ⟨g, cap, _, e, _⟩
  · exact ⟨none, 0, by rw [e, e0]⟩
  · exact ⟨_, cap, e⟩

theorem sl_news {w : World} {a : Addr} {cap : Nat} {bs : List UInt8} (h : Sl w (.slice (some a) bs.length cap) bs) : ∀ j u, (cells8 bs)[j]? = some u → w.cell? (a.add j) = some u := by
  intro j u hj
  have hjl : j < bs.length := by have := (List.getElem?_eq_some_iff.1 hj).1; simpa [cells8_len] using this
  obtain ⟨g, off, ha, hc⟩ := h.cell (by omega)
  simp only [Option.some.injEq] at ha
  subst ha
  rw [Addr.add_lit, hc j hjl, ← hj, cells8_at _ _ hjl]

set_option maxHeartbeats 1000000 in
theorem wtext_some (base B : Nat) (v : Value) (a : Addr) (cap : Nat) (bs t : List UInt8) (w : World) (h : Wr w 92 base B v bs) (hbase : base ≤ w.heap.size) (hsep : ∀ w', Wrote w w' B v.ownBlock → Sl w' (.slice (some a) t.length cap) t) (hl : bs.length + 10 + t.length ≤ 140737488355328) :
    Calls Tryd.prog 55 #[.pointer (some ⟨B, 0, none⟩), .slice (some a) t.length cap] w fun e w' => e = .returned (.tuple #[]) ∧ ∃ v', Wr w' 92 base B v' (bs ++ (enc t.length ++ t)) ∧ Wrote w w' B v.ownBlock ∧ Moved w v v' := by
  obtain ⟨i, hi, hz0, hz1, hz2⟩ := info_parts Tryd.info5
  go_enter Tryd.func55, Tryd.ntmps55
  go_wp2_with fail
  refine (wnum_any base B v bs t.length w h hbase (by omega) (by omega) (by omega)).mono ?_
  rintro e w1 ⟨rfl, v1, hW1, hw1, hm1⟩
  have ht1 := hsep w1 hw1
  obtain ⟨c0, f0⟩ := one_cell hW1.1
  have hb1 : base ≤ w1.heap.size := Nat.le_trans hbase hw1.size
  have hle := enc_le t.length
  have hlen1 : (bs ++ enc t.length).length ≤ bs.length + 10 := by rw [List.length_append]; omega
  go_wp2_with (at_builtin; refine wpList_append_own_at _ rfl _ _ 33 rfl base 5 i (.int .u8 0) 1 1 Tryd.underlying33 hi hz0 hz1 hz2 rfl (by decide) v1 _ _ rfl hW1.2 a t.length cap (cells8 t) rfl (by rw [cells8_len, Nat.mul_one]) (sl_news ht1) (cells8_one t) (by simp only [maxLen]; omega) (by omega) hb1 ?_)
  intro v' w2 hown' hgrow _ hat
  obtain ⟨⟨ao', cap', rfl⟩, c0', f0', HW⟩ := put_many (news := t) hW1 (by decide) (by rw [List.length_append]; exact hown') hgrow hat
  rw [List.length_append] at HW
  clear hown' hgrow hat c0 f0
  go_wp2
  go_end0
  refine ⟨rfl, _, ?_, hw1.trans hm1 HW.out.2.1, hm1.trans HW.out.2.2 hw1.size⟩
  rw [← List.append_assoc]
  exact HW.out.1

set_option maxHeartbeats 1000000 in
theorem wtext_none (base B : Nat) (v : Value) (bs : List UInt8) (w : World) (h : Wr w 92 base B v bs) (hbase : base ≤ w.heap.size) (hl : bs.length + 10 ≤ 140737488355328) :
    Calls Tryd.prog 55 #[.pointer (some ⟨B, 0, none⟩), .slice none 0 0] w fun e w' => e = .returned (.tuple #[]) ∧ ∃ v', Wr w' 92 base B v' (bs ++ enc 0) ∧ Wrote w w' B v.ownBlock ∧ Moved w v v' := by
  obtain ⟨i, hi, hz0, hz1, hz2⟩ := info_parts Tryd.info5
  go_enter Tryd.func55, Tryd.ntmps55
  go_wp2_with fail
  refine (wnum_any base B v bs 0 w h hbase (by omega) (by omega) (by omega)).mono ?_
  rintro e w1 ⟨rfl, v1, hW1, hw1, hm1⟩
  obtain ⟨c0, f0⟩ := one_cell hW1.1
  have HW : Hid (_) := Wr.put (news := []) hW1 (by decide) (by rw [List.length_nil, Nat.add_zero, show cells8 [] = [] from rfl, List.append_nil]; exact hW1.2) (grown_refl _ _) (Moved.refl _ _)
  rw [List.append_nil] at HW
  generalize hE : bs ++ enc 0 = E at hW1 HW c0
  have HE : Hid (bs ++ enc 0 = E) := hE
  clear hE
  obtain ⟨ao1, cap1, rfl, _, _⟩ := hW1.sl.shape
  go_wp2_with (at_builtin; refine wpList_append_own_none rfl _ _ 33 rfl base 5 i 1 Tryd.underlying33 hi _ _ _ rfl hW1.2 rfl ?_)
  go_end0
  exact ⟨rfl, _, by rw [HE.out]; exact HW.out.1, hw1.trans hm1 HW.out.2.1, hm1.trans HW.out.2.2 hw1.size⟩

theorem wtext_any (base B : Nat) (v vt : Value) (bs t : List UInt8) (w : World) (h : Wr w 92 base B v bs) (hbase : base ≤ w.heap.size) (ht : Sl w vt t) (hsep : ∀ w', Wrote w w' B v.ownBlock → Sl w' vt t) (hl : bs.length + 10 + t.length ≤ 140737488355328) :
    Calls Tryd.prog 55 #[.pointer (some ⟨B, 0, none⟩), vt] w fun e w' => e = .returned (.tuple #[]) ∧ ∃ v', Wr w' 92 base B v' (bs ++ (enc t.length ++ t)) ∧ Wrote w w' B v.ownBlock ∧ Moved w v v' := by
  obtain ⟨ao, cap, rfl, h1, h2, h3, h4⟩ := ht
  cases ao with
  | some a => exact wtext_some base B v a cap bs t w h hbase hsep hl
  | none =>
    have hc := h3 rfl
    have e : t = [] := List.eq_nil_of_length_eq_zero (by omega)
    subst e hc
    have := wtext_none base B v bs w h hbase (by omega)
    simpa using this
end Go.Proofs.YtnbdkojdddplkaaDoor.Bn

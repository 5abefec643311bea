/- The walks of word, appendWord, bytes.Clone and Short. -/
import Derived.Test.YtnbdkojdddplkaaDoorFrSum
import Derived.BigQuiet
namespace Go.Proofs.YtnbdkojdddplkaaDoor.Fr
open Go.RowKit

theorem or_nat (a b k : Nat) (h : a < 2 ^ k) (hb : b % 2 ^ k = 0) (ha2 : a < 4294967296) (hb2 : b < 4294967296) : bits .or .u32 (a : Int) (b : Int) = ((a + b : Nat) : Int) := by
  rw [u32_or_nat a b ha2 hb2]
  congr 1
  obtain ⟨c, rfl⟩ : ∃ c, b = 2 ^ k * c := ⟨b / 2 ^ k, (Nat.mul_div_cancel' (Nat.dvd_of_mod_eq_zero hb)).symm⟩
  rw [Nat.or_comm, ← Nat.two_pow_add_eq_or_of_lt h]
  omega

theorem word_walk (bs : List UInt8) : bits .or .u32 (bits .or .u32 (bits .or .u32 (at8 bs 0 % 4294967296) (at8 bs 1 % 4294967296 * 256 % 4294967296)) (at8 bs 2 % 4294967296 * 65536 % 4294967296)) (at8 bs 3 % 4294967296 * 16777216 % 4294967296) = (wordN bs : Int) := by
  unfold at8 wordN
  have h0 := byte_lt (bs.getD 0 0)
  have h1 := byte_lt (bs.getD 1 0)
  have h2 := byte_lt (bs.getD 2 0)
  have h3 := byte_lt (bs.getD 3 0)
  generalize (bs.getD 0 0).toNat = a at *
  generalize (bs.getD 1 0).toNat = b at *
  generalize (bs.getD 2 0).toNat = c at *
  generalize (bs.getD 3 0).toNat = d at *
  rw [show (a : Int) % 4294967296 = (a : Int) by omega, show (b : Int) % 4294967296 * 256 % 4294967296 = ((256 * b : Nat) : Int) by omega, show (c : Int) % 4294967296 * 65536 % 4294967296 = ((65536 * c : Nat) : Int) by omega, show (d : Int) % 4294967296 * 16777216 % 4294967296 = ((16777216 * d : Nat) : Int) by omega]
  rw [or_nat a (256 * b) 8 (by omega) (by omega) (by omega) (by omega), or_nat _ (65536 * c) 16 (by omega) (by omega) (by omega) (by omega), or_nat _ (16777216 * d) 24 (by omega) (by omega) (by omega) (by omega)]

set_option maxHeartbeats 400000 in
theorem word_any (v : Value) (bs : List UInt8) (w : World) (h : Sl w v bs) (hl : 4 ≤ bs.length) :
    Calls Tryd.prog 83 #[v] w fun e w' => e = .returned (.int .u32 (wordN bs : Int)) ∧ ∃ m, w' = w.drewN m := by
  obtain ⟨ao, cap, rfl, h1, h2⟩ := h.shape
  obtain ⟨g, off, rfl, hc⟩ := h.cell (by omega)
  have c0 : w.cell? ⟨g, off, none⟩ = _ := hc 0 (by omega)
  have c1 := hc 1 (by omega)
  have c2 := hc 2 (by omega)
  have c3 := hc 3 (by omega)
  have l0 : (0 : Int) < (bs.length : Int) := by omega
  have l1 : (1 : Int) < (bs.length : Int) := by omega
  have l2 : (2 : Int) < (bs.length : Int) := by omega
  have l3 : (3 : Int) < (bs.length : Int) := by omega
  clear hc h
  go_enter Tryd.func83, Tryd.ntmps83
  go_wp2
  go_quiet (fail)
  go_wp2
  go_ret
  refine ⟨?_, _, rfl⟩
  exact congrArg (fun z => Ending.returned (.int .u32 z)) (word_walk bs)

/- bytes.Clone -/
theorem Tryd.info5 : (Tryd.prog.info? 5).map (fun i => (i.zero, i.size, i.bytes)) = some (some (.int .u8 0), 1, 1) := by kernel_rfl

set_option maxHeartbeats 400000 in
theorem clone_nil (w : World) :
    Calls Tryd.prog 34 #[.slice none 0 0] w fun e w' => e = .returned (.slice none 0 0) ∧ w' = w := by
  have he := fun w => Lib.run_eql_slice_nil (P := Tryd.prog) w 33 5 none 0 0 0 0 Tryd.underlying33
  go_enter Tryd.func34, Tryd.ntmps34
  go_wp2
  go_ret
  exact ⟨rfl, rfl⟩

set_option maxHeartbeats 400000 in
theorem clone_some (a : Addr) (cap : Nat) (bs : List UInt8) (w : World) (h : Sl w (.slice (some a) bs.length cap) bs) (hl : bs.length ≤ 140737488355328) :
    Calls Tryd.prog 34 #[.slice (some a) bs.length cap] w fun e w' => ∃ v', e = .returned v' ∧ w'.ownsRow w.heap.size 5 1 v' bs.length (cells8 bs) ∧ Below w.heap.size w w' := by
  obtain ⟨i, hi, hz0, hz1, hz2⟩ := info_parts Tryd.info5
  have hnews : ∀ (o : Obj), ∀ j u, (cells8 bs)[j]? = some u → (w.alloc o).cell? (a.add j) = some u := by
    intro o j u hj
    have hjl : j < bs.length := by have := (List.getElem?_eq_some_iff.1 hj).1; simpa [cells8_len] using this
    obtain ⟨g, off, ha, hc⟩ := (h.alloc o).cell (by omega)
    simp only [Option.some.injEq] at ha
    subst ha
    rw [Addr.add_lit, hc j hjl, ← hj, cells8_at _ _ hjl]
  have he := fun w => Lib.run_eql_slice_nil (P := Tryd.prog) w 33 5 (some a) bs.length cap 0 0 Tryd.underlying33
  go_enter Tryd.func34, Tryd.ntmps34
  go_wp2_with (at_builtin; refine wpList_append_own_at _ rfl (.tmp 5) (.tmp 6) 33 rfl w.heap.size 5 i (.int .u8 0) 1 1 Tryd.underlying33 hi hz0 hz1 hz2 rfl (by decide) _ 0 [] rfl (World.ownsRow_made w #[] 0 (Nat.le_refl _) (by simp [maxLen]) rfl) a bs.length cap (cells8 bs) rfl (by rw [cells8_len, Nat.mul_one]) (hnews _) (cells8_one bs) (by simp only [maxLen]; omega) (by omega) (by simp) ?_)
  intro v' w1 hown hgrow _ hat
  clear hnews he
  have hfin : w1.ownsRow w.heap.size 5 1 v' bs.length (cells8 bs) ∧ Below w.heap.size w w1 :=
    ⟨by simpa using hown, ((Below.refl _ _).alloc (Nat.le_refl _) _).grown hgrow (by simp) (fun k hk => by simp [Value.ownBlock] at hk; omega)⟩
  clear hown hgrow hat
  go_wp2
  go_ret
  exact ⟨_, rfl, hfin⟩

/-- A copy: nil of nil, else a row of its own. -/
theorem clone_any (v : Value) (bs : List UInt8) (w : World) (h : Sl w v bs) (hl : bs.length ≤ 140737488355328) :
    Calls Tryd.prog 34 #[v] w fun e w' => ∃ v', e = .returned v' ∧ w'.ownsRow w.heap.size 5 1 v' bs.length (cells8 bs) ∧ Below w.heap.size w w' := by
  obtain ⟨ao, cap, rfl, h1, h2, h3, h4⟩ := id h
  cases ao with
  | none =>
    have hc := h3 rfl
    have e : bs = [] := List.eq_nil_of_length_eq_zero (by omega)
    subst e
    subst hc
    exact (clone_nil w).mono fun _ _ ⟨he, hw⟩ => ⟨_, he, by subst hw; exact World.ownsRow_nil _ _ _ _, by subst hw; exact Below.refl _ _⟩
  | some a => exact clone_some a cap bs w h hl

theorem sl_news {w : World} {a : Addr} {cap : Nat} {bs : List UInt8} (h : Sl w (.slice (some a) bs.length cap) bs) : ∀ j u, (cells8 bs)[j]? = some u → w.cell? (a.add j) = some u := by
  intro j u hj
  have hjl : j < bs.length := by have := (List.getElem?_eq_some_iff.1 hj).1; simpa [cells8_len] using this
  obtain ⟨g, off, ha, hc⟩ := h.cell (by omega)
  simp only [Option.some.injEq] at ha
  subst ha
  rw [Addr.add_lit, hc j hjl, ← hj, cells8_at _ _ hjl]

set_option maxHeartbeats 400000 in
theorem short_any (v : Value) (bs : List UInt8) (m : Nat) (w : World) (h : Sl w v bs) (hm : m ≤ 1000) :
    Calls Tryd.prog 22 #[v, .int .i64 m] w fun e w' => ∃ v', e = .returned v' ∧ Sl w' v' (bs.take m) ∧ w' = w := by
  obtain ⟨ao, cap, rfl, h1, h2⟩ := h.shape
  have h2' : cap ≤ 9223372036854775807 := h2
  have HS : Hid (Sl w (.slice ao bs.length cap) bs) := h
  clear h
  by_cases hl : m < bs.length
  · have hl' : (m : Int) < (bs.length : Int) := by omega
    have hc : (m : Int) ≤ (cap : Int) := by omega
    go_enter Tryd.func22, Tryd.ntmps22
    go_wp2
    all_goals go_ret
    all_goals exact ⟨_, rfl, HS.out.take m (by omega), rfl⟩
  · have hl' : ¬ (m : Int) < (bs.length : Int) := by omega
    go_enter Tryd.func22, Tryd.ntmps22
    go_wp2
    go_ret
    exact ⟨_, rfl, by rw [List.take_of_length_le (by omega)]; exact HS.out, rfl⟩

/-- 'append' of bytes onto a slice of the call's own, whatever slice the bytes come from. -/
theorem wpList_append_sl {P : Program} (w : World) {ops : Array Oper} {rest : List Oper} {o : Oper} {a : Act} {Q : Exit → Act → World → Prop} (hgd : o.guard = none) (s x : Operand) (t : TypeId)
    (ho : o.op = .call { callee := .builtin .append, args := #[s, x], argTypes := #[t, t] }) (base : Nat) (i : TypeInfo) (ht : P.underlying t = some (.slice 5)) (hi : P.info? 5 = some i) (hz : i.zero = some (.int .u8 0)) (hsize : i.size = 1) (hby : i.bytes = 1)
    (v vx : Value) (bs tx : List UInt8) (hs : a.eval s = v) (hown : w.ownsRow base 5 1 v bs.length (cells8 bs)) (hx : a.eval x = vx) (hS : Sl w vx tx) (hl : bs.length + tx.length ≤ 140737488355328) (hbase : base ≤ w.heap.size)
    (h : ∀ v' w', w'.ownsRow base 5 1 v' (bs ++ tx).length (cells8 (bs ++ tx)) → w.grownBy w' v.ownBlock → (v'.ownBlock = v.ownBlock ∨ v'.ownBlock = some w.heap.size) → wpList P ops Q rest (a.put o.dst v') w') :
    wpList P ops Q (o :: rest) a w := by
  obtain ⟨ao, cap, rfl, h1, h2, h3, h4⟩ := id hS
  cases ao with
  | some ad =>
    refine wpList_append_own_at w hgd s x t ho base 5 i (.int .u8 0) 1 1 ht hi hz hsize hby rfl (by decide) v bs.length (cells8 bs) hs hown ad tx.length cap (cells8 tx) hx (by rw [cells8_len, Nat.mul_one]) (sl_news hS) (cells8_one tx) (by simp only [maxLen]; omega) (by omega) hbase ?_
    intro v' w' g1 g2 _ g4
    exact h v' w' (by rw [List.length_append, cells8_append]; exact g1) g2 g4
  | none =>
    have hc := h3 rfl
    have e : tx = [] := List.eq_nil_of_length_eq_zero (by omega)
    subst e hc
    refine wpList_append_own_none hgd s x t ho base 5 i 1 ht hi v bs.length (cells8 bs) hs hown hx ?_
    exact h v w (by rw [List.append_nil]; exact hown) (grown_refl _ _) (Or.inl rfl)


/-- New cells read as their bytes. -/
theorem sl_new (w : World) (C : Array Value) (bs : List UInt8) (T : TypeId) (f : Nat × Nat) (hC : C.toList = cells8 bs) (hl : bs.length ≤ 1000) : Sl (w.alloc (.cells C T f)) (.slice (some ⟨w.heap.size, 0, none⟩) bs.length bs.length) bs :=
  ⟨_, _, rfl, Nat.le_refl _, by simp [maxLen]; omega, fun e => by simp at e, fun _ => ⟨_, _, rfl, fun j hj => by
    rw [cell_of_row _ _ _ _ _ _ (heap_alloc_new _ _), Nat.zero_add, ← cells8_at bs j hj, ← hC]; simp⟩⟩

theorem le4_cells (n : Nat) : cells8 (le4 n) = [.int .u8 ((n : Int) % 256), .int .u8 ((n : Int) / 256 % 256), .int .u8 ((n : Int) / 65536 % 256), .int .u8 ((n : Int) / 16777216 % 256)] := by
  simp only [cells8, le4, List.map_cons, List.map_nil, ofNat_mod, List.cons.injEq, Value.int.injEq, true_and, and_true]
  refine ⟨?_, ?_, ?_, ?_⟩ <;> omega

set_option maxHeartbeats 1000000 in
theorem appendWord_any (base : Nat) (v : Value) (bs : List UInt8) (n : Nat) (w : World) (h : w.ownsRow base 5 1 v bs.length (cells8 bs)) (hbase : base ≤ w.heap.size) (hl : bs.length ≤ 1000) :
    Calls Tryd.prog 75 #[v, .int .u32 n] w fun e w' => ∃ v', e = .returned v' ∧ w'.ownsRow base 5 1 v' (bs ++ le4 n).length (cells8 (bs ++ le4 n)) ∧ w.grownBy w' v.ownBlock := by
  obtain ⟨i, hi, hz0, hz1, hz2⟩ := info_parts Tryd.info5
  obtain ⟨ao, cap, rfl, h1, h2⟩ := (Sl.of_own h).shape
  have HS : Hid (Sl (w.alloc (.cells #[.int .u8 ((n : Int) % 256), .int .u8 ((n : Int) / 256 % 256), .int .u8 ((n : Int) / 65536 % 256), .int .u8 ((n : Int) / 16777216 % 256)] 5)) (.slice (some ⟨w.heap.size, 0, none⟩) 4 4) (le4 n)) :=
    sl_new w _ (le4 n) _ _ (by rw [le4_cells]) (by rw [le4_len]; omega)
  have hn0 : (0 : Int) ≤ (n : Int) := by omega
  generalize ((n : Nat) : Int) = z at *
  go_enter Tryd.func75, Tryd.ntmps75
  go_wp2_with (at_builtin; refine wpList_append_sl _ rfl (.tmp 5) (.tmp 17) 33 rfl base i Tryd.underlying33 hi hz0 hz1 hz2 _ _ bs (le4 n) rfl (h.alloc _) rfl HS.out (by rw [le4_len]; omega) (by simp; omega) ?_)
  intro v' w1 hO hg _
  have hO' : w1.ownsRow base 5 1 v' (bs ++ le4 n).length (cells8 (bs ++ le4 n)) := by rw [List.length_append]; exact hO
  have HO : Hid (w1.ownsRow base 5 1 v' (bs ++ le4 n).length (cells8 (bs ++ le4 n))) := hO'
  have HG := (World.grownBy_alloc w _ _).trans hg
  clear hO hg hO'
  go_wp2
  go_ret
  exact ⟨_, rfl, HO.out, HG⟩
end Go.Proofs.YtnbdkojdddplkaaDoor.Fr

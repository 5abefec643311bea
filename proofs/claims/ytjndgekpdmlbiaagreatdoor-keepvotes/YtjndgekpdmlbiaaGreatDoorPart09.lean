/- The walk of a disk's Names. The walks of word, appendWord, bytes.Clone and Short. The walks of Seal, firstBody, Open. The walk of Open. The walks of begun and of the law FrameBig. -/
import Derived.Test.YtjndgekpdmlbiaaGreatDoorPart08
import Derived.Test.YtjndgekpdmlbiaaGreatDoorPart06
import Derived.Test.YtjndgekpdmlbiaaGreatDoorPart01
import Derived.BigQuiet
import Derived.Laws.MakeOwn
import Derived.Lib.SlBytesConst
import Derived.Laws.OwnMore
namespace Go.Proofs.YtjndgekpdmlbiaaGreatDoor.Dk
open Go.RowKit

theorem Tryz.info9 : (Tryz.prog.info? 9).map (fun i => (i.zero, i.size, i.bytes)) = some (some (.string ⟨#[]⟩), 1, 16) := by kernel_rfl

set_option maxHeartbeats 2000000 in
set_option maxRecDepth 20000 in
theorem names_any (p : Nat) (s : St) (F : Nat → Prop) (w : World) (h : Dk w p s F) (hm : s.mass ≤ 1000000000) :
    Calls Tryz.prog 69 #[.pointer (some ⟨p, 0, none⟩)] w fun e w' => ∃ v', e = .returned v' ∧ w'.ownsRow w.heap.size 9 1 v' s.now.length (s.now.map fun f => .string f.name) ∧ Below w.heap.size w w' := by
  obtain ⟨I, hI, hz0, hz1, hz2⟩ := info_parts Tryz.info9
  obtain ⟨hgood, hFlt, vl, vn, vw, zl, zn, ws, Fa, Fn, Fw, hC, g1, g2, g3, g4⟩ := h
  have hnm := St.now_mass hgood
  have hum := used_mass s.now
  have hzn : zn.length = s.now.length := by rw [← g2, List.length_map]
  have hzl : zn.length ≤ 1000000000 := by omega
  obtain ⟨w0, hmk, hO0, hg0⟩ := run_make_full (P := Tryz.prog) w w.heap.size 123 9 I _ 1 Tryz.underlying123 hI hz0 hz1 .i64 .i64 zn.length (by rw [hz2]; omega) (by unfold maxLen; omega) (Nat.le_refl _)
  have hb0 : Below w.heap.size w w0 := (Below.refl _ _).grown hg0 (Nat.le_refl _) (by simp)
  have hlt0 : w.heap.size < w0.heap.size := (hO0.lt _ rfl).2
  have hrep : (madeCells (Value.string ⟨#[]⟩).cells (zn.length * 1)).toList = List.replicate zn.length (Value.string ⟨#[]⟩) := by
    rw [Nat.mul_one]
    exact toList_madeCells_one _ _
  rw [hrep] at hO0
  have c2 := hC.cells.2.2.1
  have HF : Hid (_) := hC.fn
  have HO0 : Hid (_) := hO0
  have HB0 : Hid (_) := hb0
  obtain ⟨ao, N, cap, rfl⟩ := own_slice hC.fn.row
  have hN : N = zn.length := by
    rcases hC.fn.shape with ⟨e, e2⟩ | ⟨_, _, e, _⟩ <;> (simp only [Value.slice.injEq] at e; omega)
  subst hN
  have HE : Hid (s.now.map (fun f => Value.string f.name) = zn.map fun z => .string z.name) := by
    show _ = _
    rw [← g2, List.map_map]
    rfl
  have HZ : Hid (zn.length = s.now.length) := hzn
  have c20 := below_cell hb0 c2
  clear hC hgood g1 g2 g3 g4 hum hnm hzn hO0 hg0 hb0 hI hz0 hz1 hz2 hrep hm
  go_enter Tryz.func69, Tryz.ntmps69
  go_wp2
  go_loopw [19] (fun vi wr => ∃ k : Nat, k ≤ zn.length ∧ vi = .int .i64 k ∧ Hid (wr.ownsRow w.heap.size 9 1 (.slice (some ⟨w.heap.size, 0, none⟩) zn.length zn.length) zn.length (((zn.take k).map fun z => .string z.name) ++ List.replicate (zn.length - k) (Value.string ⟨#[]⟩)) ∧ Below w.heap.size w wr ∧ w.heap.size < wr.heap.size)) (fun vi _ => zn.length - (intOf vi).toNat)
  case atStart => exact ⟨0, Nat.zero_le _, rfl, by have h := HO0.out; simp only [List.take_zero, List.map_nil, List.nil_append, Nat.sub_zero]; exact h, HB0.out, hlt0⟩
  case round =>
    obtain ⟨k, hk, rfl, HK⟩ := hrel
    by_cases hlt : k < zn.length
    · have hlt' : (k : Int) < (zn.length : Int) := by omega
      obtain ⟨g, rfl⟩ : ∃ g, ao = some ⟨g, 0, none⟩ := by
        rcases HF.out.shape with ⟨_, e⟩ | ⟨g, cap', e, _⟩
        · omega
        · simp at e; exact ⟨g, e.1⟩
      obtain ⟨c0, c1⟩ := (HF.out.below HK.out.2.1).cell k hlt
      obtain ⟨aod, Ld, capd, hd⟩ := own_slice ((HF.out.below HK.out.2.1).data zn[k] (List.getElem_mem hlt))
      rw [hd] at c1
      have hst : ∀ ob : Obj, Hid (((wr.alloc ob).setCell ⟨w.heap.size, k, none⟩ (.string zn[k].name)).ownsRow w.heap.size 9 1 (.slice (some ⟨w.heap.size, 0, none⟩) zn.length zn.length) zn.length (((zn.take (k + 1)).map fun z => .string z.name) ++ List.replicate (zn.length - (k + 1)) (Value.string ⟨#[]⟩)) ∧ Below w.heap.size w ((wr.alloc ob).setCell ⟨w.heap.size, k, none⟩ (.string zn[k].name)) ∧ w.heap.size < ((wr.alloc ob).setCell ⟨w.heap.size, k, none⟩ (.string zn[k].name)).heap.size) := fun ob => by
        obtain ⟨x1, x2, x3⟩ := HK.out
        have h1 := ((x1.alloc ob).stored k (.string zn[k].name)).1
        have e : ((((zn.take k).map fun z => Value.string z.name) ++ List.replicate (zn.length - k) (Value.string ⟨#[]⟩)).set k (.string zn[k].name)) = ((zn.take (k + 1)).map fun z => .string z.name) ++ List.replicate (zn.length - (k + 1)) (Value.string ⟨#[]⟩) := by
          have hl : ((zn.take k).map fun z => Value.string z.name).length = k := by simp; omega
          rw [List.set_append_right _ _ (by omega), hl, Nat.sub_self, show zn.length - k = (zn.length - (k + 1)) + 1 by omega, List.replicate_succ, List.set_cons_zero, take_succ_snoc zn k zn[k] (List.getElem?_eq_getElem hlt), List.map_append, List.append_assoc]
          rfl
        rw [e] at h1
        exact ⟨h1, ((x2.alloc x2.size ob).setCell (Nat.le_refl _) _), by rw [setCell_size]; simp; omega⟩
      have HST : Hid (_) := hst
      have hcw : ∀ ob, ∃ u, (wr.alloc ob).cell? ⟨w.heap.size, k, none⟩ = some u := fun ob => by
        have h1 := (HK.out.1.alloc ob).cellAt k (by omega)
        rw [h1]
        exact ⟨_, List.getElem?_eq_getElem (by simp; omega)⟩
      obtain ⟨u, hu⟩ := hcw (.cells #[.string zn[k].name, .slice aod Ld capd] 113)
      have hfz := (HK.out.1.alloc (.cells #[.string zn[k].name, .slice aod Ld capd] 113)).frozenAt k
      have hne : w.heap.size ≠ wr.heap.size := by have := HK.out.2.2; omega
      clear hst hcw hd
      go_wp2
      go_roundw
      case rel => exact ⟨k + 1, by omega, by go_num, HST.out _⟩
      case measure => simp [intOf]; omega
    · have e : k = zn.length := by omega
      subst e
      go_wp2
      go_ret
      obtain ⟨x1, x2, x3⟩ := HK.out
      refine ⟨_, rfl, ?_, x2⟩
      rw [HE.out, ← HZ.out]
      simp only [List.take_length, Nat.sub_self, List.replicate_zero, List.append_nil] at x1
      exact x1
end Go.Proofs.YtjndgekpdmlbiaaGreatDoor.Dk
namespace Go.Proofs.YtjndgekpdmlbiaaGreatDoor.Fr
open Go.RowKit

theorem or_nat (a b k : Nat) (h : a < 2 ^ k) (hb : b % 2 ^ k = 0) (ha2 : a < 4294967296) (hb2 : b < 4294967296) : bits .or .u32 (a : Int) (b : Int) = ((a + b : Nat) : Int) := by
  rw [u32_or_nat a b ha2 hb2]
  congr 1
  obtain ⟨c, rfl⟩ : ∃ c, b = 2 ^ k * c := ⟨b / 2 ^ k, (Nat.mul_div_cancel' (Nat.dvd_of_mod_eq_zero hb)).symm⟩
  rw [Nat.or_comm, ← Nat.two_pow_add_eq_or_of_lt h]
  omega

theorem word_walk (bs : List UInt8) : bits .or .u32 (bits .or .u32 (bits .or .u32 (at8 bs 0 % 4294967296) (at8 bs 1 % 4294967296 * 256 % 4294967296)) (at8 bs 2 % 4294967296 * 65536 % 4294967296)) (at8 bs 3 % 4294967296 * 16777216 % 4294967296) = (wordN bs : Int) := by
  unfold at8 wordN
  have h0 := byte_lt (bs.getD 0 0)
  have h1 := byte_lt (bs.getD 1 0)
  have h2 := byte_lt (bs.getD 2 0)
  have h3 := byte_lt (bs.getD 3 0)
  generalize (bs.getD 0 0).toNat = a at *
  generalize (bs.getD 1 0).toNat = b at *
  generalize (bs.getD 2 0).toNat = c at *
  generalize (bs.getD 3 0).toNat = d at *
  rw [show (a : Int) % 4294967296 = (a : Int) by omega, show (b : Int) % 4294967296 * 256 % 4294967296 = ((256 * b : Nat) : Int) by omega, show (c : Int) % 4294967296 * 65536 % 4294967296 = ((65536 * c : Nat) : Int) by omega, show (d : Int) % 4294967296 * 16777216 % 4294967296 = ((16777216 * d : Nat) : Int) by omega]
  rw [or_nat a (256 * b) 8 (by omega) (by omega) (by omega) (by omega), or_nat _ (65536 * c) 16 (by omega) (by omega) (by omega) (by omega), or_nat _ (16777216 * d) 24 (by omega) (by omega) (by omega) (by omega)]

set_option maxHeartbeats 400000 in
theorem word_any (v : Value) (bs : List UInt8) (w : World) (h : Sl w v bs) (hl : 4 ≤ bs.length) :
    Calls Tryz.prog 127 #[v] w fun e w' => e = .returned (.int .u32 (wordN bs : Int)) ∧ ∃ m, w' = w.drewN m := by
  obtain ⟨ao, cap, rfl, h1, h2⟩ := h.shape
  obtain ⟨g, off, rfl, hc⟩ := h.cell (by omega)
  have c0 : w.cell? ⟨g, off, none⟩ = _ := hc 0 (by omega)
  have c1 := hc 1 (by omega)
  have c2 := hc 2 (by omega)
  have c3 := hc 3 (by omega)
  have l0 : (0 : Int) < (bs.length : Int) := by omega
  have l1 : (1 : Int) < (bs.length : Int) := by omega
  have l2 : (2 : Int) < (bs.length : Int) := by omega
  have l3 : (3 : Int) < (bs.length : Int) := by omega
  clear hc h
  go_enter Tryz.func127, Tryz.ntmps127
  go_wp2
  go_quiet (fail)
  go_wp2
  go_ret
  refine ⟨?_, _, rfl⟩
  exact congrArg (fun z => Ending.returned (.int .u32 z)) (word_walk bs)

/- bytes.Clone -/
theorem Tryz.info5 : (Tryz.prog.info? 5).map (fun i => (i.zero, i.size, i.bytes)) = some (some (.int .u8 0), 1, 1) := by kernel_rfl

set_option maxHeartbeats 400000 in
theorem clone_nil (w : World) :
    Calls Tryz.prog 58 #[.slice none 0 0] w fun e w' => e = .returned (.slice none 0 0) ∧ w' = w := by
  have he := fun w => Lib.run_eql_slice_nil (P := Tryz.prog) w 33 5 none 0 0 0 0 Tryz.underlying33
  go_enter Tryz.func58, Tryz.ntmps58
  go_wp2
  go_ret
  exact ⟨rfl, rfl⟩

set_option maxHeartbeats 400000 in
theorem clone_some (a : Addr) (cap : Nat) (bs : List UInt8) (w : World) (h : Sl w (.slice (some a) bs.length cap) bs) (hl : bs.length ≤ 140737488355328) :
    Calls Tryz.prog 58 #[.slice (some a) bs.length cap] w fun e w' => ∃ v', e = .returned v' ∧ w'.ownsRow w.heap.size 5 1 v' bs.length (cells8 bs) ∧ Below w.heap.size w w' := by
  obtain ⟨i, hi, hz0, hz1, hz2⟩ := info_parts Tryz.info5
  have hnews : ∀ (o : Obj), ∀ j u, (cells8 bs)[j]? = some u → (w.alloc o).cell? (a.add j) = some u := by
    intro o j u hj
    have hjl : j < bs.length := by have := (List.getElem?_eq_some_iff.1 hj).1; simpa [cells8_len] using this
    obtain ⟨g, off, ha, hc⟩ := (h.alloc o).cell (by omega)
    simp only [Option.some.injEq] at ha
    subst ha
    rw [Addr.add_lit, hc j hjl, ← hj, cells8_at _ _ hjl]
  have he := fun w => Lib.run_eql_slice_nil (P := Tryz.prog) w 33 5 (some a) bs.length cap 0 0 Tryz.underlying33
  go_enter Tryz.func58, Tryz.ntmps58
  go_wp2_with (at_builtin; refine wpList_append_own_at _ rfl (.tmp 5) (.tmp 6) 33 rfl w.heap.size 5 i (.int .u8 0) 1 1 Tryz.underlying33 hi hz0 hz1 hz2 rfl (by decide) _ 0 [] rfl (World.ownsRow_made w #[] 0 (Nat.le_refl _) (by simp [maxLen]) rfl) a bs.length cap (cells8 bs) rfl (by rw [cells8_len, Nat.mul_one]) (hnews _) (cells8_one bs) (by simp only [maxLen]; omega) (by omega) (by simp) ?_)
  intro v' w1 hown hgrow _ hat
  clear hnews he
  have hfin : w1.ownsRow w.heap.size 5 1 v' bs.length (cells8 bs) ∧ Below w.heap.size w w1 :=
    ⟨by simpa using hown, ((Below.refl _ _).alloc (Nat.le_refl _) _).grown hgrow (by simp) (fun k hk => by simp [Value.ownBlock] at hk; omega)⟩
  clear hown hgrow hat
  go_wp2
  go_ret
  exact ⟨_, rfl, hfin⟩

/-- A copy: nil of nil, else a row of its own. -/
theorem clone_any (v : Value) (bs : List UInt8) (w : World) (h : Sl w v bs) (hl : bs.length ≤ 140737488355328) :
    Calls Tryz.prog 58 #[v] w fun e w' => ∃ v', e = .returned v' ∧ w'.ownsRow w.heap.size 5 1 v' bs.length (cells8 bs) ∧ Below w.heap.size w w' := by
  obtain ⟨ao, cap, rfl, h1, h2, h3, h4⟩ := id h
  cases ao with
  | none =>
    have hc := h3 rfl
    have e : bs = [] := List.eq_nil_of_length_eq_zero (by omega)
    subst e
    subst hc
    exact (clone_nil w).mono fun _ _ ⟨he, hw⟩ => ⟨_, he, by subst hw; exact World.ownsRow_nil _ _ _ _, by subst hw; exact Below.refl _ _⟩
  | some a => exact clone_some a cap bs w h hl

theorem sl_news {w : World} {a : Addr} {cap : Nat} {bs : List UInt8} (h : Sl w (.slice (some a) bs.length cap) bs) : ∀ j u, (cells8 bs)[j]? = some u → w.cell? (a.add j) = some u := by
  intro j u hj
  have hjl : j < bs.length := by have := (List.getElem?_eq_some_iff.1 hj).1; simpa [cells8_len] using this
  obtain ⟨g, off, ha, hc⟩ := h.cell (by omega)
  simp only [Option.some.injEq] at ha
  subst ha
  rw [Addr.add_lit, hc j hjl, ← hj, cells8_at _ _ hjl]

set_option maxHeartbeats 400000 in
theorem short_any (v : Value) (bs : List UInt8) (m : Nat) (w : World) (h : Sl w v bs) (hm : m ≤ 1000) :
    Calls Tryz.prog 28 #[v, .int .i64 m] w fun e w' => ∃ v', e = .returned v' ∧ Sl w' v' (bs.take m) ∧ w' = w := by
  obtain ⟨ao, cap, rfl, h1, h2⟩ := h.shape
  have h2' : cap ≤ 9223372036854775807 := h2
  have HS : Hid (Sl w (.slice ao bs.length cap) bs) := h
  clear h
  by_cases hl : m < bs.length
  · have hl' : (m : Int) < (bs.length : Int) := by omega
    have hc : (m : Int) ≤ (cap : Int) := by omega
    go_enter Tryz.func28, Tryz.ntmps28
    go_wp2
    all_goals go_ret
    all_goals exact ⟨_, rfl, HS.out.take m (by omega), rfl⟩
  · have hl' : ¬ (m : Int) < (bs.length : Int) := by omega
    go_enter Tryz.func28, Tryz.ntmps28
    go_wp2
    go_ret
    exact ⟨_, rfl, by rw [List.take_of_length_le (by omega)]; exact HS.out, rfl⟩

/-- 'append' of bytes onto a slice of the call's own, whatever slice the bytes come from. -/
theorem wpList_append_sl {P : Program} (w : World) {ops : Array Oper} {rest : List Oper} {o : Oper} {a : Act} {Q : Exit → Act → World → Prop} (hgd : o.guard = none) (s x : Operand) (t : TypeId)
    (ho : o.op = .call { callee := .builtin .append, args := #[s, x], argTypes := #[t, t] }) (base : Nat) (i : TypeInfo) (ht : P.underlying t = some (.slice 5)) (hi : P.info? 5 = some i) (hz : i.zero = some (.int .u8 0)) (hsize : i.size = 1) (hby : i.bytes = 1)
    (v vx : Value) (bs tx : List UInt8) (hs : a.eval s = v) (hown : w.ownsRow base 5 1 v bs.length (cells8 bs)) (hx : a.eval x = vx) (hS : Sl w vx tx) (hl : bs.length + tx.length ≤ 140737488355328) (hbase : base ≤ w.heap.size)
    (h : ∀ v' w', w'.ownsRow base 5 1 v' (bs ++ tx).length (cells8 (bs ++ tx)) → w.grownBy w' v.ownBlock → (v'.ownBlock = v.ownBlock ∨ v'.ownBlock = some w.heap.size) → wpList P ops Q rest (a.put o.dst v') w') :
    wpList P ops Q (o :: rest) a w := by
  obtain ⟨ao, cap, rfl, h1, h2, h3, h4⟩ := id hS
  cases ao with
  | some ad =>
    refine wpList_append_own_at w hgd s x t ho base 5 i (.int .u8 0) 1 1 ht hi hz hsize hby rfl (by decide) v bs.length (cells8 bs) hs hown ad tx.length cap (cells8 tx) hx (by rw [cells8_len, Nat.mul_one]) (sl_news hS) (cells8_one tx) (by simp only [maxLen]; omega) (by omega) hbase ?_
    intro v' w' g1 g2 _ g4
    exact h v' w' (by rw [List.length_append, cells8_append]; exact g1) g2 g4
  | none =>
    have hc := h3 rfl
    have e : tx = [] := List.eq_nil_of_length_eq_zero (by omega)
    subst e hc
    refine wpList_append_own_none hgd s x t ho base 5 i 1 ht hi v bs.length (cells8 bs) hs hown hx ?_
    exact h v w (by rw [List.append_nil]; exact hown) (grown_refl _ _) (Or.inl rfl)


/-- New cells read as their bytes. -/
theorem sl_new (w : World) (C : Array Value) (bs : List UInt8) (T : TypeId) (f : Nat × Nat) (hC : C.toList = cells8 bs) (hl : bs.length ≤ 1000) : Sl (w.alloc (.cells C T f)) (.slice (some ⟨w.heap.size, 0, none⟩) bs.length bs.length) bs :=
  ⟨_, _, rfl, Nat.le_refl _, by simp [maxLen]; omega, fun e => by simp at e, fun _ => ⟨_, _, rfl, fun j hj => by
    rw [cell_of_row _ _ _ _ _ _ (heap_alloc_new _ _), Nat.zero_add, ← cells8_at bs j hj, ← hC]; simp⟩⟩

theorem le4_cells (n : Nat) : cells8 (le4 n) = [.int .u8 ((n : Int) % 256), .int .u8 ((n : Int) / 256 % 256), .int .u8 ((n : Int) / 65536 % 256), .int .u8 ((n : Int) / 16777216 % 256)] := by
  simp only [cells8, le4, List.map_cons, List.map_nil, ofNat_mod, List.cons.injEq, Value.int.injEq, true_and, and_true]
  refine ⟨?_, ?_, ?_, ?_⟩ <;> omega

set_option maxHeartbeats 1000000 in
theorem appendWord_any (base : Nat) (v : Value) (bs : List UInt8) (n : Nat) (w : World) (h : w.ownsRow base 5 1 v bs.length (cells8 bs)) (hbase : base ≤ w.heap.size) (hl : bs.length ≤ 1000) :
    Calls Tryz.prog 145 #[v, .int .u32 n] w fun e w' => ∃ v', e = .returned v' ∧ w'.ownsRow base 5 1 v' (bs ++ le4 n).length (cells8 (bs ++ le4 n)) ∧ w.grownBy w' v.ownBlock := by
  obtain ⟨i, hi, hz0, hz1, hz2⟩ := info_parts Tryz.info5
  obtain ⟨ao, cap, rfl, h1, h2⟩ := (Sl.of_own h).shape
  have HS : Hid (Sl (w.alloc (.cells #[.int .u8 ((n : Int) % 256), .int .u8 ((n : Int) / 256 % 256), .int .u8 ((n : Int) / 65536 % 256), .int .u8 ((n : Int) / 16777216 % 256)] 5)) (.slice (some ⟨w.heap.size, 0, none⟩) 4 4) (le4 n)) :=
    sl_new w _ (le4 n) _ _ (by rw [le4_cells]) (by rw [le4_len]; omega)
  have hn0 : (0 : Int) ≤ (n : Int) := by omega
  generalize ((n : Nat) : Int) = z at *
  go_enter Tryz.func145, Tryz.ntmps145
  go_wp2_with (at_builtin; refine wpList_append_sl _ rfl (.tmp 5) (.tmp 17) 33 rfl base i Tryz.underlying33 hi hz0 hz1 hz2 _ _ bs (le4 n) rfl (h.alloc _) rfl HS.out (by rw [le4_len]; omega) (by simp; omega) ?_)
  intro v' w1 hO hg _
  have hO' : w1.ownsRow base 5 1 v' (bs ++ le4 n).length (cells8 (bs ++ le4 n)) := by rw [List.length_append]; exact hO
  have HO : Hid (w1.ownsRow base 5 1 v' (bs ++ le4 n).length (cells8 (bs ++ le4 n))) := hO'
  have HG := (World.grownBy_alloc w _ _).trans hg
  clear hO hg hO'
  go_wp2
  go_ret
  exact ⟨_, rfl, HO.out, HG⟩
end Go.Proofs.YtjndgekpdmlbiaaGreatDoor.Fr
namespace Go.Proofs.YtjndgekpdmlbiaaGreatDoor.Fr
open Go.RowKit

set_option maxHeartbeats 400000 in
theorem seal_big (v : Value) (bs : List UInt8) (w : World) (h : Sl w v bs) (hl : 65536 < bs.length) :
    Calls Tryz.prog 141 #[v] w fun e w' => e = .returned (.slice none 0 0) ∧ w' = w := by
  obtain ⟨ao, cap, rfl, h1, h2⟩ := h.shape
  have hl' : (65536 : Int) < (bs.length : Int) := by omega
  go_enter Tryz.func141, Tryz.ntmps141
  go_wp2
  go_ret
  exact ⟨rfl, rfl⟩

set_option maxHeartbeats 1000000 in
theorem seal_any (v : Value) (bs : List UInt8) (w : World) (h : Sl w v bs) (ht : Tab w) (hl : bs.length ≤ 65536) :
    Calls Tryz.prog 141 #[v] w fun e w' => ∃ v', e = .returned v' ∧ w'.ownsRow w.heap.size 5 1 v' (sealL bs).length (cells8 (sealL bs)) ∧ Below w.heap.size w w' := by
  obtain ⟨i, hi, hz0, hz1, hz2⟩ := info_parts Tryz.info5
  obtain ⟨ao, cap, rfl, h1, h2⟩ := h.shape
  have hl' : ¬ (65536 : Int) < (bs.length : Int) := by omega
  obtain ⟨w0, hmake, hO0, hg0⟩ := run_make_own (P := Tryz.prog) w w.heap.size 33 5 i (.int .u8 0) 1 Tryz.underlying33 hi hz0 hz1 .i64 .i64 (8 + bs.length) (by rw [hz2]; omega) (by simp [maxLen]; omega) (Nat.le_refl _)
  have hmk : (Instr.makeSlice 33 (.int .i64 0) (.int .i64 (8 + (bs.length : Int)))).run Tryz.prog w = .ok (.slice (some ⟨w.heap.size, 0, none⟩) 0 (8 + bs.length)) w0 := by rw [← hmake]; congr 2
  have hb0 : Below w.heap.size w w0 := (Below.refl _ _).grown hg0 (Nat.le_refl _) (fun k hk => by cases hk)
  have hO0' : w0.ownsRow w.heap.size 5 1 (.slice (some ⟨w.heap.size, 0, none⟩) 0 (8 + bs.length)) ([] : List UInt8).length (cells8 []) := hO0
  have hS0 := h.below hb0
  have hT0 := ht.below hb0
  have hs0 := hb0.size
  clear hmake hO0 hg0
  go_enter Tryz.func141, Tryz.ntmps141
  go_wp2_with fail
  refine (appendWord_any w.heap.size _ [] bs.length _ hO0' hs0 (by simp)).mono ?_
  rintro e w1 ⟨v1, rfl, hO1, hg1⟩
  have hb1 : Below w.heap.size w0 w1 := (Below.refl _ _).grown hg1 hs0 (fun k hk => (hO0'.lt k hk).1)
  have hbw1 := hb0.trans hb1
  have hS1 := h.below hbw1
  have hT1 := ht.below hbw1
  have hs1 := hbw1.size
  clear hb1 hb0 hg1 hO0' hs0 hmk
  rw [List.nil_append] at hO1
  obtain ⟨ao1, cap1, rfl, _, _⟩ := (Sl.of_own hO1).shape
  go_wp2_with fail
  refine (sum_any _ _ _ (Sl.of_own hO1) hT1).mono ?_
  rintro e w' ⟨rfl, hw⟩
  have hw' := hw.symm
  subst hw'
  clear hw
  go_wp2_with fail
  refine (sumOn_any (crc (le4 bs.length)) _ _ _ (crc_lt _) hS1 hT1).mono ?_
  rintro e w' ⟨rfl, hw⟩
  have hw' := hw.symm
  subst hw'
  clear hw
  rw [sumOn_crc]
  go_wp2_with fail
  refine (appendWord_any w.heap.size _ (le4 bs.length) (crc (le4 bs.length ++ bs)) _ hO1 hs1 (by rw [le4_len]; omega)).mono ?_
  rintro e w2 ⟨v2, rfl, hO2, hg2⟩
  have hbw2 : Below w.heap.size w w2 := hbw1.grown hg2 hs1 (fun k hk => (hO1.lt k hk).1)
  have hS2 := h.below hbw2
  have hs2 := hbw2.size
  clear hg2 hO1 hbw1 hS1 hT1 hs1
  obtain ⟨ao2, cap2, rfl, _, _⟩ := (Sl.of_own hO2).shape
  go_wp2_with (at_builtin; refine wpList_append_sl _ rfl (.tmp 22) (.tmp 23) 33 rfl w.heap.size i Tryz.underlying33 hi hz0 hz1 hz2 _ _ _ bs rfl hO2 rfl hS2 (by rw [List.length_append, le4_len, le4_len]; omega) hs2 ?_)
  intro v' w3 hO3 hg3 _
  have hO3' : w3.ownsRow w.heap.size 5 1 v' (sealL bs).length (cells8 (sealL bs)) := by
    unfold sealL
    simpa only [List.length_append, List.append_assoc, Nat.add_assoc] using hO3
  have HO : Hid (w3.ownsRow w.heap.size 5 1 v' (sealL bs).length (cells8 (sealL bs))) := hO3'
  have HB : Hid (Below w.heap.size w w3) := hbw2.grown hg3 hs2 (fun k hk => (hO2.lt k hk).1)
  clear hO3 hO3' hg3 hO2 hS2 hbw2
  go_wp2
  go_ret
  exact ⟨_, rfl, HO.out, HB.out⟩

theorem Sl.drew {w : World} {v : Value} {bs : List UInt8} (h : Sl w v bs) (n : Nat) : Sl (w.drewN n) v bs := h
theorem Tab.drew {w : World} (h : Tab w) (n : Nat) : Tab (w.drewN n) := h

set_option maxHeartbeats 400000 in
theorem first_no8 (v : Value) (bs : List UInt8) (w : World) (h : Sl w v bs) (hl : bs.length < 8) :
    Calls Tryz.prog 103 #[v] w fun e w' => e = .returned (.tuple #[.slice none 0 0, .bool false]) ∧ ∃ m, w' = w.drewN m := by
  obtain ⟨ao, cap, rfl, h1, h2⟩ := h.shape
  have h2' : cap ≤ 9223372036854775807 := h2
  have hl' : (bs.length : Int) < 8 := by omega
  go_enter Tryz.func103, Tryz.ntmps103
  go_wp2
  go_ret2
  exact ⟨rfl, 0, rfl⟩

set_option maxHeartbeats 400000 in
theorem first_nofar (v : Value) (bs : List UInt8) (w : World) (h : Sl w v bs) (hl : ¬ bs.length < 8) (hf : 65536 < wordN bs ∨ bs.length < 8 + wordN bs) :
    Calls Tryz.prog 103 #[v] w fun e w' => e = .returned (.tuple #[.slice none 0 0, .bool false]) ∧ ∃ m, w' = w.drewN m := by
  have hw := word_any v bs w h (by omega)
  obtain ⟨ao, cap, rfl, h1, h2⟩ := h.shape
  have h2' : cap ≤ 9223372036854775807 := h2
  have hl' : ¬ (bs.length : Int) < 8 := by omega
  have hwl := wordN_lt bs
  by_cases hf1 : 65536 < wordN bs
  · have hf1' : (65536 : Int) < (wordN bs : Int) := by omega
    go_enter Tryz.func103, Tryz.ntmps103
    go_wp2_with (go_at_call 127; refine hw.mono ?_; rintro e w' ⟨rfl, m, rfl⟩)
    go_ret2
    exact ⟨rfl, m, rfl⟩
  · have hf1' : ¬ (65536 : Int) < (wordN bs : Int) := by omega
    have hf2' : (bs.length : Int) - 8 < (wordN bs : Int) := by omega
    go_enter Tryz.func103, Tryz.ntmps103
    go_wp2_with (go_at_call 127; refine hw.mono ?_; rintro e w' ⟨rfl, m, rfl⟩)
    go_ret2
    exact ⟨rfl, m, rfl⟩

theorem body_sl {w : World} {g off cap : Nat} {bs : List UInt8} (h : Sl w (.slice (some ⟨g, off, none⟩) bs.length cap) bs) (n : Nat) (hn : 8 + n ≤ bs.length) :
    (cap = 8 → Hid (Sl w (.slice (some ⟨g, off, none⟩) n 0) ((bs.drop 8).take n))) ∧ (cap ≠ 8 → Hid (Sl w (.slice (some ⟨g, off + 8, none⟩) n (cap - 8)) ((bs.drop 8).take n))) := by
  have hr := ((sl_rest h 8 (by omega)).1).take n (by omega)
  refine ⟨fun e => ?_, fun e => ?_⟩
  · rw [if_pos e, e] at hr; exact hr
  · rw [if_neg e] at hr; exact hr
theorem first_at {bs : List UInt8} (hl : ¬ bs.length < 8) (hf : ¬ (65536 < wordN bs ∨ bs.length < 8 + wordN bs)) : firstB bs = if wordN (bs.drop 4) = sumOn (crc (bs.take 4)) (bodyL bs) then some (bodyL bs) else none := by
  unfold firstB
  rw [if_neg hl, if_neg hf, sumOn_crc]

theorem hid_sl {w w1 : World} {m : Nat} {v : Value} {bs : List UInt8} (h : Hid (Sl w v bs)) (e : w1 = w.drewN m) : Hid (Sl w1 v bs) := by subst e; exact h
theorem hid_tab {w w1 : World} {m : Nat} (h : Hid (Tab w)) (e : w1 = w.drewN m) : Hid (Tab w1) := by subst e; exact h
theorem hid_eq {w w1 : World} (e : w1 = w) : Hid (w1 = w) := e

set_option maxHeartbeats 2000000 in
theorem first_cap8 (g off : Nat) (bs : List UInt8) (w : World) (h : Sl w (.slice (some ⟨g, off, none⟩) bs.length 8) bs) (ht : Tab w) (hl : ¬ bs.length < 8) (hf : ¬ (65536 < wordN bs ∨ bs.length < 8 + wordN bs)) :
    Calls Tryz.prog 103 #[.slice (some ⟨g, off, none⟩) bs.length 8] w fun e w' => ∃ v', e = .returned (.tuple #[v', .bool (firstB bs).isSome]) ∧ Sl w v' ((firstB bs).getD []) ∧ ∃ m, w' = w.drewN m := by
  rw [first_at hl hf]
  have HT : Hid (Tab w) := ht
  have hw := word_any _ bs w h (by omega)
  obtain ⟨_, _, e, h1, h2⟩ := h.shape
  simp only [Value.slice.injEq] at e
  obtain ⟨rfl, _, rfl⟩ := e
  have hl' : ¬ (bs.length : Int) < 8 := by omega
  have hf1' : ¬ (65536 : Int) < (wordN bs : Int) := by omega
  have hf2' : ¬ (bs.length : Int) - 8 < (wordN bs : Int) := by omega
  have HD4 : Hid (Sl w (.slice (some ⟨g, off + 4, none⟩) (bs.length - 4) (8 - 4)) (bs.drop 4)) := by
    have := (sl_rest h 4 (by omega)).1
    rw [if_neg (by omega)] at this
    exact this
  have HT4 : Hid (Sl w (.slice (some ⟨g, off, none⟩) 4 8) (bs.take 4)) := h.take 4 (by omega)
  have HB := (body_sl h (wordN bs) (by omega)).1 rfl
  have hd4 : 4 ≤ (bs.drop 4).length := by rw [List.length_drop]; omega
  have hl4 : (4 : Int) ≤ (bs.length : Int) := by omega
  clear h ht hf hl h2
  by_cases hc : wordN (bs.drop 4) = sumOn (crc (bs.take 4)) (bodyL bs)
  · have hcb : ((wordN (bs.drop 4) : Int) != (sumOn (crc (bs.take 4)) (bodyL bs) : Int)) = false := by simp [hc]
    rw [if_pos hc]
    clear hc
    go_enter Tryz.func103, Tryz.ntmps103
    go_wp2_with (go_at_call 127; refine hw.mono ?_; rintro e w1 ⟨rfl, m, hm⟩; have HT' := hid_tab HT hm; have HD' := hid_sl HD4 hm; have H4' := hid_sl HT4 hm; have HB' := hid_sl HB hm; have HM := hid_eq hm; clear hm)
    go_quiet (first
      | (go_at_call 127; exact Calls.quiet_of (word_any _ (bs.drop 4) _ (Sl.drew HD'.out _) hd4))
      | (go_at_call 129; exact Calls.quiet_of_same (sum_any _ (bs.take 4) _ (Sl.drew H4'.out _) (Tab.drew HT'.out _)))
      | (go_at_call 128; exact Calls.quiet_of_same (sumOn_any (crc (bs.take 4)) _ (bodyL bs) _ (crc_lt _) (Sl.drew HB'.out _) (Tab.drew HT'.out _))))
    go_wp2
    go_ret2
    exact ⟨_, rfl, by show Sl w (.slice _ (8 + wordN bs - 8) _) _; rw [Nat.add_sub_cancel_left]; exact HB.out, _, by rw [HM.out]; exact World.drewN_drewN _ _ _⟩
  · have hcb : ((wordN (bs.drop 4) : Int) != (sumOn (crc (bs.take 4)) (bodyL bs) : Int)) = true := by simp; omega
    rw [if_neg hc]
    clear hc
    go_enter Tryz.func103, Tryz.ntmps103
    go_wp2_with (go_at_call 127; refine hw.mono ?_; rintro e w1 ⟨rfl, m, hm⟩; have HT' := hid_tab HT hm; have HD' := hid_sl HD4 hm; have H4' := hid_sl HT4 hm; have HB' := hid_sl HB hm; have HM := hid_eq hm; clear hm)
    go_quiet (first
      | (go_at_call 127; exact Calls.quiet_of (word_any _ (bs.drop 4) _ (Sl.drew HD'.out _) hd4))
      | (go_at_call 129; exact Calls.quiet_of_same (sum_any _ (bs.take 4) _ (Sl.drew H4'.out _) (Tab.drew HT'.out _)))
      | (go_at_call 128; exact Calls.quiet_of_same (sumOn_any (crc (bs.take 4)) _ (bodyL bs) _ (crc_lt _) (Sl.drew HB'.out _) (Tab.drew HT'.out _))))
    go_wp2
    go_ret2
    exact ⟨_, rfl, Sl.nil _, _, by rw [HM.out]; exact World.drewN_drewN _ _ _⟩

set_option maxHeartbeats 2000000 in
theorem first_capn (g off cap : Nat) (bs : List UInt8) (w : World) (h : Sl w (.slice (some ⟨g, off, none⟩) bs.length cap) bs) (ht : Tab w) (hl : ¬ bs.length < 8) (hf : ¬ (65536 < wordN bs ∨ bs.length < 8 + wordN bs)) (hc8 : cap ≠ 8) :
    Calls Tryz.prog 103 #[.slice (some ⟨g, off, none⟩) bs.length cap] w fun e w' => ∃ v', e = .returned (.tuple #[v', .bool (firstB bs).isSome]) ∧ Sl w v' ((firstB bs).getD []) ∧ ∃ m, w' = w.drewN m := by
  rw [first_at hl hf]
  have HT : Hid (Tab w) := ht
  have hw := word_any _ bs w h (by omega)
  obtain ⟨_, _, e, h1, h2⟩ := h.shape
  simp only [Value.slice.injEq] at e
  obtain ⟨rfl, _, rfl⟩ := e
  have h2' : cap ≤ 9223372036854775807 := h2
  have hwc : (wordN bs : Int) + 8 ≤ (cap : Int) := by omega
  have hlc : (bs.length : Int) ≤ (cap : Int) := by omega
  have hc4 : ¬ cap = 4 := by omega
  have hc4' : (4 : Int) ≤ (cap : Int) := by omega
  have hl' : ¬ (bs.length : Int) < 8 := by omega
  have hf1' : ¬ (65536 : Int) < (wordN bs : Int) := by omega
  have hf2' : ¬ (bs.length : Int) - 8 < (wordN bs : Int) := by omega
  have HD4 : Hid (Sl w (.slice (some ⟨g, off + 4, none⟩) (bs.length - 4) (cap - 4)) (bs.drop 4)) := by
    have := (sl_rest h 4 (by omega)).1
    rw [if_neg (by omega)] at this
    exact this
  have HT4 : Hid (Sl w (.slice (some ⟨g, off, none⟩) 4 cap) (bs.take 4)) := h.take 4 (by omega)
  have HB := (body_sl h (wordN bs) (by omega)).2 hc8
  have hd4 : 4 ≤ (bs.drop 4).length := by rw [List.length_drop]; omega
  have hl4 : (4 : Int) ≤ (bs.length : Int) := by omega
  clear h ht hf hl h2
  by_cases hc : wordN (bs.drop 4) = sumOn (crc (bs.take 4)) (bodyL bs)
  · have hcb : ((wordN (bs.drop 4) : Int) != (sumOn (crc (bs.take 4)) (bodyL bs) : Int)) = false := by simp [hc]
    rw [if_pos hc]
    clear hc
    go_enter Tryz.func103, Tryz.ntmps103
    go_wp2_with (go_at_call 127; refine hw.mono ?_; rintro e w1 ⟨rfl, m, hm⟩; have HT' := hid_tab HT hm; have HD' := hid_sl HD4 hm; have H4' := hid_sl HT4 hm; have HB' := hid_sl HB hm; have HM := hid_eq hm; clear hm)
    go_quiet (first
      | (go_at_call 127; exact Calls.quiet_of (word_any _ (bs.drop 4) _ (Sl.drew HD'.out _) hd4))
      | (go_at_call 129; exact Calls.quiet_of_same (sum_any _ (bs.take 4) _ (Sl.drew H4'.out _) (Tab.drew HT'.out _)))
      | (go_at_call 128; exact Calls.quiet_of_same (sumOn_any (crc (bs.take 4)) _ (bodyL bs) _ (crc_lt _) (Sl.drew HB'.out _) (Tab.drew HT'.out _))))
    go_wp2
    go_ret2
    exact ⟨_, rfl, by show Sl w (.slice _ (8 + wordN bs - 8) _) _; rw [Nat.add_sub_cancel_left]; exact HB.out, _, by rw [HM.out]; exact World.drewN_drewN _ _ _⟩
  · have hcb : ((wordN (bs.drop 4) : Int) != (sumOn (crc (bs.take 4)) (bodyL bs) : Int)) = true := by simp; omega
    rw [if_neg hc]
    clear hc
    go_enter Tryz.func103, Tryz.ntmps103
    go_wp2_with (go_at_call 127; refine hw.mono ?_; rintro e w1 ⟨rfl, m, hm⟩; have HT' := hid_tab HT hm; have HD' := hid_sl HD4 hm; have H4' := hid_sl HT4 hm; have HB' := hid_sl HB hm; have HM := hid_eq hm; clear hm)
    go_quiet (first
      | (go_at_call 127; exact Calls.quiet_of (word_any _ (bs.drop 4) _ (Sl.drew HD'.out _) hd4))
      | (go_at_call 129; exact Calls.quiet_of_same (sum_any _ (bs.take 4) _ (Sl.drew H4'.out _) (Tab.drew HT'.out _)))
      | (go_at_call 128; exact Calls.quiet_of_same (sumOn_any (crc (bs.take 4)) _ (bodyL bs) _ (crc_lt _) (Sl.drew HB'.out _) (Tab.drew HT'.out _))))
    go_wp2
    go_ret2
    exact ⟨_, rfl, Sl.nil _, _, by rw [HM.out]; exact World.drewN_drewN _ _ _⟩


/-- What the seal at the beginning holds. -/
theorem first_any (v : Value) (bs : List UInt8) (w : World) (h : Sl w v bs) (ht : Tab w) :
    Calls Tryz.prog 103 #[v] w fun e w' => ∃ v', e = .returned (.tuple #[v', .bool (firstB bs).isSome]) ∧ Sl w v' ((firstB bs).getD []) ∧ ∃ m, w' = w.drewN m := by
  by_cases h8 : bs.length < 8
  · refine (first_no8 v bs w h h8).mono ?_
    rintro e w' ⟨rfl, m, hm⟩
    rw [first_short h8]
    exact ⟨_, rfl, Sl.nil _, m, hm⟩
  · by_cases hf : 65536 < wordN bs ∨ bs.length < 8 + wordN bs
    · refine (first_nofar v bs w h h8 hf).mono ?_
      rintro e w' ⟨rfl, m, hm⟩
      rw [first_far hf]
      exact ⟨_, rfl, Sl.nil _, m, hm⟩
    · obtain ⟨ao, cap, rfl, h1, h2⟩ := h.shape
      obtain ⟨g, off, rfl, _⟩ := h.cell (by omega)
      by_cases hc : cap = 8
      · subst hc
        exact first_cap8 g off bs w h ht h8 hf
      · exact first_capn g off cap bs w h ht h8 hf hc

theorem below_draw {w w' : World} {m : Nat} (e : w' = w.drewN m) : Below w.heap.size w w' := by
  subst e
  exact below_drewN (Below.refl _ _) _

end Go.Proofs.YtjndgekpdmlbiaaGreatDoor.Fr
namespace Go.Proofs.YtjndgekpdmlbiaaGreatDoor.Fr
open Go.RowKit

theorem own_lower {w : World} {base base' : Nat} {T : TypeId} {v : Value} {n : Nat} {xs : List Value} (h : w.ownsRow base T 1 v n xs) (hb : base' ≤ base) : w.ownsRow base' T 1 v n xs :=
  ⟨h.1, h.2.imp id fun ⟨g, cap, cur, e1, e2, e3⟩ => ⟨g, cap, cur, e1, Nat.le_trans hb e2, e3⟩⟩

theorem first_is (v : Value) (bs : List UInt8) (x : Option (List UInt8)) (b : Bool) (t : List UInt8) (w : World) (h : Sl w v bs) (ht : Tab w) (hx : firstB bs = x) (hb : x.isSome = b) (hy : x.getD [] = t) :
    Calls Tryz.prog 103 #[v] w fun e w' => ∃ v', e = .returned (.tuple #[v', .bool b]) ∧ Sl w' v' t ∧ Hid (Below w.heap.size w w') ∧ Hid (∃ m, w' = w.drewN m) := by
  refine (first_any v bs w h ht).mono ?_
  rintro e w' ⟨v', rfl, hS, m, hm⟩
  subst hx hb hy
  exact ⟨v', rfl, by subst hm; exact hS, below_draw hm, m, hm⟩

end Go.Proofs.YtjndgekpdmlbiaaGreatDoor.Fr
namespace Go.Proofs.YtjndgekpdmlbiaaGreatDoor.Fr
open Go.RowKit

theorem crc_nine : crc [49, 50, 51, 52, 53, 54, 55, 56, 57] = 3421780262 := by decide +kernel
theorem seal_x : (sealL [120]).length = 9 := rfl
theorem open_x : openL (sealL [120]) = some [120] := open_seal _ (by decide)

theorem made_zeros (n : Nat) : (madeCells (Value.int .u8 0).cells (n * 1)).toList = cells8 (List.replicate n 0) := by
  have hz : ∀ j : Nat, (Value.int .u8 0).cells[j % (Value.int .u8 0).cells.size]! = .int .u8 0 := by
    intro j
    have e : (Value.int .u8 0).cells = #[.int .u8 0] := rfl
    rw [e, show (#[Value.int .u8 0] : Array Value).size = 1 from rfl, Nat.mod_one]
    rfl
  unfold madeCells
  rw [show (fun x => (Value.int .u8 0).cells[x % (Value.int .u8 0).cells.size]!) = fun _ => Value.int .u8 0 from funext hz]
  simp [cells8, List.map_const']

end Go.Proofs.YtjndgekpdmlbiaaGreatDoor.Fr

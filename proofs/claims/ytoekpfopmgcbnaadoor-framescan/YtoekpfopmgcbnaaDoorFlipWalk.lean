/- The walk of the law FrameFlip. -/
import Derived.Test.YtoekpfopmgcbnaaDoorScan
import Derived.Deep.RegionHeld
namespace Go.Proofs.YtoekpfopmgcbnaaDoor
open Go.RowKit

/-- The front of a slice, and how the program comes to it. -/
theorem slice_upto {w : World} {v : Value} {bs : List UInt8} (hS : Sl w v bs) (k : Nat) (kz : Int) (hz : kz = k) (hk : k ≤ bs.length) : ∃ cs ao cap, Hid (cs = bs.take k) ∧ cs.length = k ∧ Sl w (.slice ao cs.length cap) cs ∧
    ∀ w', (Instr.slice 22 v none (some (.int .i64 kz)) none).run Tryd.prog w' = .ok (.slice ao cs.length cap) w' ∧ (Instr.sliceAt 22 v none (some (.int .i64 kz)) none).run Tryd.prog w' = .ok (.slice ao cs.length cap) w' := by
  subst hz
  obtain ⟨ao, cap, rfl, h1, h2⟩ := hS.shape
  have hl : (bs.take k).length = k := by rw [List.length_take]; omega
  refine ⟨bs.take k, ao, cap, rfl, hl, by rw [hl]; exact hS.take k hk, fun w' => ?_⟩
  have e : (Instr.slice 22 (.slice ao bs.length cap) none (some (.int .i64 (k : Int))) none).run Tryd.prog w' = .ok (.slice ao (bs.take k).length cap) w' := by
    rw [run_slice_h w' 22 ao bs.length cap elem22 .i64 k (by omega) (by omega), size22, hl]
    simp [Result.andThen, sliced]
    cases ao <;> simp [Addr.add]
  exact ⟨e, by rw [run_sliceAt_slice (P := Tryd.prog) w' 22 _ _ _ _ elem22]; exact e⟩

theorem xor_byte (b x : UInt8) : bits .xor .u8 (b.toNat : Int) (x.toNat : Int) = ((b ^^^ x).toNat : Int) := by
  rw [u8_xor_nat _ _ (byte_lt b) (byte_lt x), UInt8.toNat_xor]
theorem xor_ne (b x : UInt8) (h : x ≠ 0) : b ≠ b ^^^ x := by
  intro e
  apply h
  have := congrArg (fun y => b ^^^ y) e
  simpa [← UInt8.xor_assoc] using this.symm
theorem cells8_set (bs : List UInt8) (j : Nat) (y : UInt8) : (cells8 bs).set j (.int .u8 (y.toNat : Int)) = cells8 (bs.set j y) := by
  simp [cells8, List.map_set]

theorem own_shape3 {w : World} {base n e : Nat} {v : Value} {xs : List Value} (h : w.ownsRow base e 1 v n xs) (hp : 0 < n) : ∃ g cap, v = .slice (some ⟨g, 0, none⟩) n cap ∧ base ≤ g ∧ n ≤ cap ∧ cap ≤ maxLen := by
  rcases h.2 with ⟨_, e⟩ | ⟨g, cap, cur, e1, e2, e3, e4, e5, _⟩
  · omega
  · exact ⟨g, cap, e1, e2, e4, e5⟩
theorem own_free {w : World} {base n e g cap : Nat} {xs : List Value} (h : w.ownsRow base e 1 (.slice (some ⟨g, 0, none⟩) n cap) n xs) (j : Nat) : w.frozen? ⟨g, j, none⟩ = false := by
  rcases h.2 with ⟨e, _⟩ | ⟨g', cap', cur, e1, e2, e3, _⟩
  · simp at e
  · simp only [Value.slice.injEq, Option.some.injEq, Addr.mk.injEq, and_true, true_and] at e1
    obtain ⟨rfl, rfl⟩ := e1
    exact frozen_of_row w g j _ e e3

theorem flip_first {cs : List UInt8} {j : Nat} {y : UInt8} (hj : j < (sealL cs).length) (hy : (sealL cs).getD j 0 ≠ y) {c : List UInt8} (h : firstB ((sealL cs).set j y) = some c) : c.length ≠ cs.length := fun e => flip_none cs c j y hj hy h e
theorem flip_open {cs : List UInt8} {j : Nat} {y : UInt8} (hj : j < (sealL cs).length) (hy : (sealL cs).getD j 0 ≠ y) : openL ((sealL cs).set j y) = none := by
  unfold openL
  cases h : firstB ((sealL cs).set j y) with
  | none => rfl
  | some c =>
    have hn := flip_first hj hy h
    simp only [List.length_set, seal_len]
    rw [if_neg (by omega)]
/-- A slice of slices that has a first one. -/
theorem Sls.first {w : World} {base : Nat} {v : Value} {c : List UInt8} {r : List (List UInt8)} (h : Sls (El w base) w base v (c :: r)) : ∃ g cap aou capu, v = .slice (some ⟨g, 0, none⟩) (r.length + 1) cap ∧ r.length + 1 ≤ cap ∧ w.cell? ⟨g, 0, none⟩ = some (.slice aou c.length capu) ∧ Sl w (.slice aou c.length capu) c := by
  obtain ⟨vals, hl, ho, he⟩ := h
  obtain ⟨u, h1, h2⟩ := he 0 c rfl
  obtain ⟨g, cap, rfl, _, hc, _⟩ := own_shape3 ho (by simp)
  obtain ⟨aou, capu, e, _, _⟩ := (El.sl h2).shape
  subst e
  refine ⟨g, cap, aou, capu, rfl, hc, ?_, El.sl h2⟩
  rw [ho.cellAt 0 (by simp), h1]

set_option maxHeartbeats 2000000 in
theorem frameFlip_walk (vb : Value) (bs : List UInt8) (at' : Int) (x : UInt8) (w : World) (hS : Sl w vb bs) (ht : Tab w) (ha1 : at' ≤ 9223372036854775807) :
    Calls Tryd.prog 6 #[vb, .int .i64 at', .int .u8 (x.toNat : Int)] w fun e w' => e = .returned (.bool true) ∧ Below w.heap.size w w' := by
  obtain ⟨ao0, cap0, rfl, h1, h2⟩ := hS.shape
  obtain ⟨cs, ao, cap, hcl, hScs, hrun⟩ : ∃ cs ao cap, cs.length ≤ 200 ∧ Sl w (.slice ao cs.length cap) cs ∧ ((200 < bs.length ∧ ∀ w', (Instr.slice 22 (.slice ao0 bs.length cap0) none (some (.int .i64 200)) none).run Tryd.prog w' = .ok (.slice ao cs.length cap) w' ∧ (Instr.sliceAt 22 (.slice ao0 bs.length cap0) none (some (.int .i64 200)) none).run Tryd.prog w' = .ok (.slice ao cs.length cap) w') ∨ (¬ 200 < bs.length ∧ Value.slice ao0 bs.length cap0 = .slice ao cs.length cap)) := by
    by_cases h : 200 < bs.length
    · obtain ⟨cs, ao, cap, _, hl, hs, hr⟩ := slice_upto hS 200 200 rfl (by omega)
      exact ⟨cs, ao, cap, by omega, hs, Or.inl ⟨h, hr⟩⟩
    · exact ⟨bs, ao0, cap0, by omega, hS, Or.inr ⟨h, rfl⟩⟩
  have HScs : Hid (Sl w (.slice ao cs.length cap) cs) := hScs
  have HT : Hid (Tab w) := ht
  have HC : Hid (∀ w1, Below w.heap.size w w1 → Calls Tryd.prog 10 #[.slice ao cs.length cap] w1 fun e w' => ∃ v', e = .returned v' ∧ w'.ownsRow w1.heap.size 5 1 v' (sealL cs).length (cells8 (sealL cs)) ∧ Below w1.heap.size w1 w') :=
    fun w1 hb => seal_any _ _ _ (hScs.below hb) (ht.below hb) (by omega)
  clear hS hScs ht
  rcases hrun with ⟨hlen, hr⟩ | ⟨hlen, hr⟩
  case' inl =>
    have hlen' : (200 : Int) < (bs.length : Int) := by omega
    go_enter Tryd.func6, Tryd.ntmps6
    go_wp2_with (go_at_call 8; refine (begun_any _ HT.out).mono ?_; rintro e w1 ⟨rfl, hb1⟩; obtain ⟨hr1, hr2⟩ := hr w1)
    refine (HC.out _ hb1).mono ?_
    rintro e w2 ⟨v2, rfl, hO2, hb2⟩
    clear hr1 hr2
  case' inr =>
    have hlen' : ¬ (200 : Int) < (bs.length : Int) := by omega
    rw [hr]
    simp only [Value.slice.injEq] at hr
    rw [hr.2.1] at hlen'
    go_enter Tryd.func6, Tryd.ntmps6
    go_wp2_with (go_at_call 8; refine (begun_any _ HT.out).mono ?_; rintro e w1 ⟨rfl, hb1⟩)
    refine (HC.out _ hb1).mono ?_
    rintro e w2 ⟨v2, rfl, hO2, hb2⟩
  all_goals
    clear hr hlen hlen' HC
    have hb := hb1.trans (hb2.mono hb1.size)
    replace hO2 := own_lower hO2 hb1.size
    clear hb1 hb2
    by_cases hneg : at' < 0
    · go_wp2
      go_ret
      exact ⟨rfl, hb⟩
    · obtain ⟨a, rfl⟩ : ∃ a : Nat, at' = (a : Int) := ⟨at'.toNat, by omega⟩
      by_cases hx0 : x = 0
      · subst hx0
        go_wp2
        go_ret
        exact ⟨rfl, hb⟩
      · have hxb : ((x.toNat : Int) == 0) = false := by
          rw [beq_eq_false_iff_ne]
          intro e
          exact hx0 (UInt8.toNat_inj.1 (by simpa using e))
        obtain ⟨X, HX⟩ : ∃ X, Hid (X = sealL cs) := ⟨_, rfl⟩
        rw [← HX.out] at hO2
        have hX8 : 8 ≤ X.length := by rw [HX.out, seal_len]; omega
        have hX2 : X.length ≤ 208 := by rw [HX.out, seal_len]; omega
        obtain ⟨g, cap2, rfl, hgw, hgc, hgm⟩ := own_shape3 hO2 (by omega)
        have hmod : Int.tmod (a : Int) (X.length : Int) = ((a % X.length : Nat) : Int) := rfl
        have hjl : a % X.length < X.length := Nat.mod_lt _ (by omega)
        generalize a % X.length = j at hmod hjl
        have hcj : w2.cell? ⟨g, j, none⟩ = some (.int .u8 (at8 X j)) := by rw [hO2.cellAt j (by omega), cells8_at _ _ hjl]
        have hfj : w2.frozen? ⟨g, j, none⟩ = false := own_free hO2 j
        obtain ⟨y, hY, HY⟩ : ∃ y : UInt8, bits .xor .u8 (at8 X j) (x.toNat : Int) = (y.toNat : Int) ∧ Hid (X.getD j 0 ≠ y) := ⟨_, xor_byte _ _, xor_ne _ _ hx0⟩
        have hO3 := (hO2.stored j (.int .u8 (y.toNat : Int))).1
        rw [cells8_set] at hO3
        have hb3 : Below w.heap.size w (w2.setCell ⟨g, j, none⟩ (.int .u8 (y.toNat : Int))) := hb.setCell (p := ⟨g, j, none⟩) hgw _
        clear hO2 hx0
        go_wp2_with fail
        clear hcj hfj hY
        generalize w2.setCell ⟨g, j, none⟩ (.int .u8 (y.toNat : Int)) = w3 at *
        have hj' : j < (sealL cs).length := by rw [← HX.out]; exact hjl
        have hy' : (sealL cs).getD j 0 ≠ y := by rw [← HX.out]; exact HY.out
        obtain ⟨Z, HZ⟩ : ∃ Z, Hid (Z = (sealL cs).set j y) := ⟨_, rfl⟩
        have hZX : X.set j y = Z := by rw [HZ.out, HX.out]
        have hZl : Z.length = X.length := by rw [← hZX, List.length_set]
        rw [hZX, ← hZl] at hO3
        have hSZ := Sl.of_own hO3
        have hT3 := HT.out.below hb3
        have hC := open_is _ Z none false [] w3 hSZ hT3 (by rw [HZ.out]; exact flip_open hj' hy') rfl rfl
        rw [hZl] at hC
        refine hC.mono ?_
        rintro e w4 ⟨v4, rfl, hO4, hb4⟩
        have hb4' := hb3.trans (hb4.mono hb3.size)
        have hSZ4 := hSZ.below hb4
        have hT4 := HT.out.below hb4'
        obtain ⟨ao4, cap4, rfl, _, _⟩ := (Sl.of_own hO4).shape
        have hC := scan_any _ Z w4 hSZ4 hT4 (by omega)
        rw [hZl] at hC
        clear hO3 hO4 hb4 hSZ hSZ4 hT3 hT4 hb3 hZX hjl
        cases hx : firstB Z with
        | none =>
          rw [scan_none hx] at hC
          clear hx
          go_wp2_with fail
          refine hC.mono ?_
          rintro e w5 ⟨v5, rfl, hL, hb5⟩
          obtain ⟨ao5, cap5, rfl, _⟩ := hL.shape
          have hb5' := hb4'.trans (hb5.mono hb4'.size)
          clear hC hL hb5
          go_wp2_with fail
          go_quiet (fail)
          go_wp2_with fail
          go_ret
          exact ⟨rfl, below_drewN hb5' _⟩
        | some c =>
          have hne := flip_first hj' hy' (by rw [← HZ.out]; exact hx)
          have HCC : Hid ((c == cs) = false) := by
            show _ = _
            rw [beq_eq_false_iff_ne]
            exact fun e => hne (by rw [e])
          rw [scan_some hx] at hC
          clear hx hne
          go_wp2_with fail
          refine hC.mono ?_
          rintro e w5 ⟨v5, rfl, hL, hb5⟩
          have hb5' := hb4'.trans (hb5.mono hb4'.size)
          obtain ⟨gl, capl, aou, capu, rfl, hcl, hcell, hSu⟩ := hL.first
          have hb6 : Below w.heap.size w w5.drew := hb5'.drew
          have k1 : w5.drew.cell? ⟨gl, 0, none⟩ = _ := hcell
          have k2 := str_of_sl (P := Tryd.prog) (show Sl w5.drew _ c from hSu) 22 5 9 Tryd.underlying22 Tryd.underlying5 Tryd.underlying9
          have k3 := str_of_sl (P := Tryd.prog) (HScs.out.below hb6) 22 5 9 Tryd.underlying22 Tryd.underlying5 Tryd.underlying9
          have hn0 : 0 < (scanL (Z.drop (8 + c.length))).1.length + 1 := Nat.succ_pos _
          generalize (scanL (Z.drop (8 + c.length))).1.length + 1 = n at hn0 hcl ⊢
          have hnb : ((n : Int) == 0) = false := by rw [beq_eq_false_iff_ne]; omega
          have hni : (0 : Int) < (n : Int) := by omega
          clear hC hL hb5 hb5' hcell hSu
          go_wp2_with fail
          go_region_held (fun w' => w'.cell? ⟨gl, 0, none⟩ = some (.slice aou c.length capu) ∧ (convert 22 9 (.slice aou c.length capu)).run Tryd.prog w' = .ok (.string ⟨c.toArray⟩) w' ∧ (convert 22 9 (.slice ao cs.length cap)).run Tryd.prog w' = .ok (.string ⟨cs.toArray⟩) w') (exact ⟨k1, k2, k3⟩) (fail)
          go_wp2_with fail
          go_ret
          exact ⟨by show Ending.returned (.bool (!(c == cs))) = _; rw [HCC.out]; rfl, hb6⟩
end Go.Proofs.YtoekpfopmgcbnaaDoor

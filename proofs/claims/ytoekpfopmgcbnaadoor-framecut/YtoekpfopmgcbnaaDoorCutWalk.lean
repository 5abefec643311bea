/- The walk of the law FrameCut. -/
import Derived.Test.YtoekpfopmgcbnaaDoorFlipWalk
import Derived.Deep.RegionHeldLaw
namespace Go.Proofs.YtoekpfopmgcbnaaDoor
open Go.RowKit

/-- 'append' of bytes onto a slice of the call's own, at a step of a region that draws its order. -/
theorem step_append_sl {P : Program} (w : World) {ops : Array Oper} {o : Oper} {a : Act} {K : Act → World → Prop} {Q : Exit → Act → World → Prop} {E : Prop} (hgd : o.guard = none) (s x : Operand) (t : TypeId)
    (ho : o.op = .call { callee := .builtin .append, args := #[s, x], argTypes := #[t, t] }) (base : Nat) (i : TypeInfo) (ht : P.underlying t = some (.slice 5)) (hi : P.info? 5 = some i) (hz : i.zero = some (.int .u8 0)) (hsize : i.size = 1) (hby : i.bytes = 1)
    (v : Value) (ad : Addr) (cap : Nat) (bs tx : List UInt8) (hs : a.eval s = v) (hown : w.ownsRow base 5 1 v bs.length (cells8 bs)) (hx : a.eval x = .slice (some ad) tx.length cap) (hS : Sl w (.slice (some ad) tx.length cap) tx) (hl : bs.length + tx.length ≤ 140737488355328) (hbase : base ≤ w.heap.size)
    (h : ∀ v' w', w'.ownsRow base 5 1 v' (bs.length + tx.length) (cells8 (bs ++ tx)) → w.grownBy w' v.ownBlock → K (a.put o.dst v') w') :
    if Region.wanted o (yielded ops a.tmps) = true then Oper.wp P o a w K Q else E := by
  have hw : Region.wanted o (yielded ops a.tmps) = true := by simp [Region.wanted, hgd]
  rw [if_pos hw]
  obtain ⟨v', w', hr, h2, h3, h4, h5⟩ := run_append_own_at (P := P) w base t o.type 5 i (.int .u8 0) 1 1 ht hi hz hsize hby rfl (by decide) v bs.length (cells8 bs) hown ad tx.length cap (cells8 tx) (by rw [cells8_len, Nat.mul_one]) (sl_news hS) (cells8_one tx) (by simp only [maxLen]; omega) (by omega) hbase
  unfold Oper.wp execOp
  simp only [ho, resolve, invoke, builtin, Sem.run_bind, Sem.run_pure, Result.andThen_ok, List.map_toArray, List.map_cons, List.map_nil, hs, hx, hr]
  exact h v' w' (by rw [cells8_append]; exact h2) h3

/-- A slice that came in, cut to k bytes where it is longer. -/
theorem short_of {w : World} {ao0 : Option Addr} {cap0 : Nat} {bs : List UInt8} (hS : Sl w (.slice ao0 bs.length cap0) bs) (k : Nat) (kz : Int) (hz : kz = k) : ∃ cs ao cap, cs.length ≤ k ∧ Sl w (.slice ao cs.length cap) cs ∧
    ((k < bs.length ∧ ∀ w', (Instr.slice 22 (.slice ao0 bs.length cap0) none (some (.int .i64 kz)) none).run Tryd.prog w' = .ok (.slice ao cs.length cap) w' ∧ (Instr.sliceAt 22 (.slice ao0 bs.length cap0) none (some (.int .i64 kz)) none).run Tryd.prog w' = .ok (.slice ao cs.length cap) w') ∨ (¬ k < bs.length ∧ Value.slice ao0 bs.length cap0 = .slice ao cs.length cap)) := by
  by_cases h : k < bs.length
  · obtain ⟨cs, ao, cap, _, hl, hs, hr⟩ := slice_upto hS k kz hz (by omega)
    exact ⟨cs, ao, cap, by omega, hs, Or.inl ⟨h, hr⟩⟩
  · exact ⟨bs, ao0, cap0, by omega, hS, Or.inr ⟨h, rfl⟩⟩

/-- The front of a slice, its place kept. -/
theorem slice_front {w : World} {ao : Option Addr} {cap : Nat} {bs : List UInt8} (hS : Sl w (.slice ao bs.length cap) bs) (k : Nat) (hk : k ≤ bs.length) : ∃ cs, Hid (cs = bs.take k) ∧ cs.length = k ∧ Sl w (.slice ao cs.length cap) cs ∧
    ∀ w', (Instr.slice 22 (.slice ao bs.length cap) none (some (.int .i64 (k : Int))) none).run Tryd.prog w' = .ok (.slice ao cs.length cap) w' ∧ (Instr.sliceAt 22 (.slice ao bs.length cap) none (some (.int .i64 (k : Int))) none).run Tryd.prog w' = .ok (.slice ao cs.length cap) w' := by
  have hl : (bs.take k).length = k := by rw [List.length_take]; omega
  have hc : bs.length ≤ cap := by
    obtain ⟨_, _, e, h, _⟩ := hS.shape
    simp only [Value.slice.injEq] at e
    rw [e.2.2]; exact h
  refine ⟨bs.take k, rfl, hl, by rw [hl]; exact hS.take k hk, fun w' => ?_⟩
  have e : (Instr.slice 22 (.slice ao bs.length cap) none (some (.int .i64 (k : Int))) none).run Tryd.prog w' = .ok (.slice ao (bs.take k).length cap) w' := by
    rw [run_slice_h w' 22 ao bs.length cap elem22 .i64 k (by omega) (by omega), size22, hl]
    simp [Result.andThen, sliced]
    cases ao <;> simp [Addr.add]
  exact ⟨e, by rw [run_sliceAt_slice (P := Tryd.prog) w' 22 _ _ _ _ elem22]; exact e⟩

/-- Scan of one seal and the front of another. -/
theorem scan_cut {w0 : World} {cs ds X C : List UInt8} {k : Nat} (HX : Hid (X = sealL cs)) (HC : Hid (C = (sealL ds).take k)) (hc : cs.length ≤ 100) (hd : ds.length ≤ 100) (hk : k < (sealL ds).length) (ht : Tab w0) (w5 : World) (v5 : Value)
    (hO : w5.ownsRow w0.heap.size 5 1 v5 (X.length + C.length) (cells8 (X ++ C))) (hb : Below w0.heap.size w0 w5) :
    Calls Tryd.prog 15 #[v5] w5 fun e w' => ∃ gl capl aou capu, e = .returned (.tuple #[.slice (some ⟨gl, 0, none⟩) 1 capl, .int .i64 (X.length : Int)]) ∧ 1 ≤ capl ∧ w'.cell? ⟨gl, 0, none⟩ = some (.slice aou cs.length capu) ∧ Sl w' (.slice aou cs.length capu) cs ∧ Hid (Below w0.heap.size w0 w') := by
  have hX := HX.out
  have hC := HC.out
  have hsc : scanL (X ++ C) = ([cs], X.length) := by rw [hX, hC, cut_scan cs ds k (by omega) (by omega) hk, seal_len]
  have hl : (X ++ C).length ≤ 100000 := by
    rw [List.length_append, hX, hC, seal_len, List.length_take, seal_len]
    omega
  rw [← List.length_append] at hO
  have h := scan_any v5 (X ++ C) w5 (Sl.of_own hO) (ht.below hb) hl
  rw [hsc] at h
  refine h.mono ?_
  rintro e w' ⟨vl, rfl, hL, hb'⟩
  obtain ⟨gl, capl, aou, capu, rfl, h1, h2, h3⟩ := hL.first
  exact ⟨gl, capl, aou, capu, rfl, h1, h2, h3, hb.trans (hb'.mono hb.size)⟩

set_option maxHeartbeats 4000000 in
theorem frameCut_walk (va vb : Value) (xs bs : List UInt8) (k : Int) (w : World) (hSa : Sl w va xs) (hSb : Sl w vb bs) (ht : Tab w) (hk1 : k ≤ 9223372036854775807) :
    Calls Tryd.prog 7 #[va, vb, .int .i64 k] w fun e w' => e = .returned (.bool true) ∧ Below w.heap.size w w' := by
  obtain ⟨i, hi, hz0, hz1, hz2⟩ := info_parts Tryd.info5
  obtain ⟨aoa, capa, rfl, _, _⟩ := hSa.shape
  obtain ⟨aob, capb, rfl, _, _⟩ := hSb.shape
  obtain ⟨cs, aoc, capc, hcl, hSc, Ha⟩ := short_of hSa 100 100 rfl
  obtain ⟨ds, aod, capd, hdl, hSd, Hb⟩ := short_of hSb 100 100 rfl
  have HT : Hid (Tab w) := ht
  have HSc : Hid (Sl w (.slice aoc cs.length capc) cs) := hSc
  have HCc : Hid (∀ w1, Below w.heap.size w w1 → Calls Tryd.prog 10 #[.slice aoc cs.length capc] w1 fun e w' => ∃ v', e = .returned v' ∧ w'.ownsRow w1.heap.size 5 1 v' (sealL cs).length (cells8 (sealL cs)) ∧ Below w1.heap.size w1 w') :=
    fun w1 hb => seal_any _ _ _ (hSc.below hb) (ht.below hb) (by omega)
  have HCd : Hid (∀ w1, Below w.heap.size w w1 → Calls Tryd.prog 10 #[.slice aod ds.length capd] w1 fun e w' => ∃ v', e = .returned v' ∧ w'.ownsRow w1.heap.size 5 1 v' (sealL ds).length (cells8 (sealL ds)) ∧ Below w1.heap.size w1 w') :=
    fun w1 hb => seal_any _ _ _ (hSd.below hb) (ht.below hb) (by omega)
  clear hSa hSb hSc hSd ht
  rcases Ha with ⟨hla, hra⟩ | ⟨hla, hra⟩
  case' inl => have hla' : (100 : Int) < (xs.length : Int) := by omega
  case' inr =>
    have hla' : ¬ (100 : Int) < (xs.length : Int) := by omega
    rw [hra]
    simp only [Value.slice.injEq] at hra
    rw [hra.2.1] at hla'
  all_goals rcases Hb with ⟨hlb, hrb⟩ | ⟨hlb, hrb⟩
  case' inl.inl => have hlb' : (100 : Int) < (bs.length : Int) := by omega
  case' inr.inl => have hlb' : (100 : Int) < (bs.length : Int) := by omega
  case' inl.inr =>
    have hlb' : ¬ (100 : Int) < (bs.length : Int) := by omega
    rw [hrb]
    simp only [Value.slice.injEq] at hrb
    rw [hrb.2.1] at hlb'
  case' inr.inr =>
    have hlb' : ¬ (100 : Int) < (bs.length : Int) := by omega
    rw [hrb]
    simp only [Value.slice.injEq] at hrb
    rw [hrb.2.1] at hlb'
  all_goals
    clear hla hlb
    go_enter Tryd.func7, Tryd.ntmps7
    go_wp2_with (go_at_call 8; refine (begun_any _ HT.out).mono ?_; rintro e w1 ⟨rfl, hb1⟩; try obtain ⟨r1, r2⟩ := hra w1; try obtain ⟨s1, s2⟩ := hrb w1)
    refine (HCc.out _ hb1).mono ?_
    rintro e w2 ⟨v2, rfl, hO2, hb2⟩
    try clear r1 r2
    try clear s1 s2
    have hbw2 := hb1.trans (hb2.mono hb1.size)
    replace hO2 := own_lower hO2 hb1.size
    clear hb1 hb2 hra hrb hla' hlb'
    go_wp2_with fail
    refine (HCd.out _ hbw2).mono ?_
    rintro e w3 ⟨v3, rfl, hO3, hb3⟩
    have hbw3 := hbw2.trans (hb3.mono hbw2.size)
    replace hO2 := own_below hO2 hb3
    replace hO3 := own_lower hO3 hbw2.size
    clear hb3 hbw2 HCc HCd
    obtain ⟨X, HX⟩ : ∃ X, Hid (X = sealL cs) := ⟨_, rfl⟩
    obtain ⟨Y, HY⟩ : ∃ Y, Hid (Y = sealL ds) := ⟨_, rfl⟩
    rw [← HX.out] at hO2
    rw [← HY.out] at hO3
    have hX8 : 8 ≤ X.length := by rw [HX.out, seal_len]; omega
    have hX2 : X.length ≤ 108 := by rw [HX.out, seal_len]; omega
    have hY8 : 8 ≤ Y.length := by rw [HY.out, seal_len]; omega
    have hY2 : Y.length ≤ 108 := by rw [HY.out, seal_len]; omega
    obtain ⟨g2, cap2, rfl, _, hgc2, _⟩ := own_shape3 hO2 (by omega)
    obtain ⟨g3, cap3, rfl, _, hgc3, _⟩ := own_shape3 hO3 (by omega)
    by_cases hneg : k < 0
    · go_wp2
      go_ret
      exact ⟨rfl, hbw3⟩
    · by_cases hge : (Y.length : Int) ≤ k
      · go_wp2
        go_ret
        exact ⟨rfl, hbw3⟩
      · obtain ⟨kn, rfl⟩ : ∃ a : Nat, k = (a : Int) := ⟨k.toNat, by omega⟩
        have hkY : kn < Y.length := by omega
        obtain ⟨C, HC, hCl, hSC, hrC⟩ := slice_front (Sl.of_own hO3) kn (by omega)
        have HC' : Hid (C = (sealL ds).take kn) := by rw [← HY.out]; exact HC
        have hkY' : kn < (sealL ds).length := by rw [← HY.out]; exact hkY
        have hdX : Sl w3.drew _ X := Sl.of_own hO2
        have hdC : Sl w3.drew _ C := hSC
        have hbd : Below w.heap.size w w3.drew := hbw3.drew
        have hTd : Tab w3.drew := HT.out.below hbd
        have HSC := scan_cut (w0 := w3.drew) HX HC' hcl hdl hkY' hTd
        have HOP : Hid (openL C = none) := by show _ = _; rw [HC'.out]; exact cut_open ds kn (by omega) hkY'
        have hCl' : C.length ≤ 108 := by omega
        have hrd := hrC w3.drew
        clear hSC hbw3 hO2 hO3 hkY' hCl hrd
        go_wp2_with fail
        go_region_held_law (fun w' => (Instr.slice 22 (.slice (some ⟨g3, 0, none⟩) Y.length cap3) none (some (.int .i64 (kn : Int))) none).run Tryd.prog w' = .ok (.slice (some ⟨g3, 0, none⟩) C.length cap3) w' ∧ (Instr.sliceAt 22 (.slice (some ⟨g3, 0, none⟩) Y.length cap3) none (some (.int .i64 (kn : Int))) none).run Tryd.prog w' = .ok (.slice (some ⟨g3, 0, none⟩) C.length cap3) w')
          (exact ⟨(hrC _).1, (hrC _).2⟩)
          (first
          | (refine step_append_sl _ (by rfl) (.const (.slice none 0 0)) (.tmp 40) 22 (by rfl) w3.drew.heap.size i Tryd.underlying22 hi hz0 hz1 hz2 (.slice none 0 0) ⟨g2, 0, none⟩ cap2 [] X (by rfl) (World.ownsRow_nil _ _ _ _) (by rfl) hdX (by rw [List.length_nil]; omega) (Nat.le_refl _) ?_; intro v4 w4 hO4 hg4; have hb4 : Below w3.drew.heap.size w3.drew w4 := (Below.refl _ _).grown hg4 (Nat.le_refl _) (fun k hk => by simp [Value.ownBlock] at hk); have hO4' : w4.ownsRow w3.drew.heap.size 5 1 v4 X.length (cells8 X) := (by simpa using hO4); have hC4 := hdC.below hb4; clear hO4 hg4)
          | (refine step_append_sl _ (by rfl) (.tmp 41) (.tmp 44) 22 (by rfl) w3.drew.heap.size i Tryd.underlying22 hi hz0 hz1 hz2 v4 ⟨g3, 0, none⟩ cap3 X C (by rfl) hO4' (by rfl) hC4 (by omega) hb4.size ?_; intro v5 w5 hO5 hg5; have hb5 : Below w3.drew.heap.size w3.drew w5 := hb4.grown hg5 hb4.size (fun k hk => (hO4'.lt k hk).1))
          | (go_at_call 15; refine (HSC _ _ hO5 hb5).mono ?_; rintro e w6 ⟨gl, capl, aou, capu, rfl, hcl1, hcell6, hS6, HB6⟩))
        have hb6 := HB6.out
        have hC6 := hdC.below hb6
        have hbw6 : Below w.heap.size w w6 := hbd.trans (hb6.mono hbd.size)
        have hC := open_is _ C none false [] w6 hC6 (HT.out.below hbw6) HOP.out rfl rfl
        obtain ⟨q1, q2⟩ := hrC w6
        clear hO4' hC4 hb4 hO5 hg5 hb5 hC6 hb6 HB6 HSC hdC hdX hrC hbd hTd
        go_wp2_with fail
        refine hC.mono ?_
        rintro e w7 ⟨v7, rfl, hO7, hb7⟩
        obtain ⟨ao7, cap7, rfl, _, _⟩ := (Sl.of_own hO7).shape
        have hbw7 : Below w.heap.size w w7.drew := (hbw6.trans (hb7.mono hbw6.size)).drew
        have k1 : w7.drew.cell? ⟨gl, 0, none⟩ = some (.slice aou cs.length capu) := (hb7.cell (p := ⟨gl, 0, none⟩) (cell_lt hcell6)).trans hcell6
        have k2 := str_of_sl (P := Tryd.prog) (show Sl w7.drew _ cs from hS6.below hb7.drew) 22 5 9 Tryd.underlying22 Tryd.underlying5 Tryd.underlying9
        have k3 := str_of_sl (P := Tryd.prog) (HSc.out.below hbw7) 22 5 9 Tryd.underlying22 Tryd.underlying5 Tryd.underlying9
        clear hC hO7 hb7 hbw6 hcell6 hS6 q1 q2
        go_wp2_with fail
        go_region_held (fun w' => w'.cell? ⟨gl, 0, none⟩ = some (.slice aou cs.length capu) ∧ (convert 22 9 (.slice aou cs.length capu)).run Tryd.prog w' = .ok (.string ⟨cs.toArray⟩) w' ∧ (convert 22 9 (.slice aoc cs.length capc)).run Tryd.prog w' = .ok (.string ⟨cs.toArray⟩) w') (exact ⟨k1, k2, k3⟩) (fail)
        go_wp2_with fail
        go_ret
        exact ⟨rfl, hbw7⟩
end Go.Proofs.YtoekpfopmgcbnaaDoor

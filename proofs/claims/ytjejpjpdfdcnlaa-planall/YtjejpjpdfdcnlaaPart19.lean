/- The law's walk. -/
import Derived.Test.YtjejpjpdfdcnlaaPart17
import Derived.Test.YtjejpjpdfdcnlaaPart18
namespace Go.Proofs.Ytjejpjpdfdcnlaa.Qu
open Go.RowKit
open Vl (Fr Tm)
open Sy (isTs isLs isRul isRs Bx Rul OkR)
open Ck (TsB Nm)

/-- What a rule of the text is. -/
structure Rk (w1 : World) (rs : List Rul) (g i : Nat) (q : Rul) (va vb : Value) : Prop where
  rul : isRul w1 q (.agg #[.int .i64 q.1.1, .string q.1.2.1, va, vb])
  ok : OkR q
  lok : Lok q.2
  k0 : w1.cell? ⟨g, i * 4, none⟩ = some (.int .i64 q.1.1)
  k1 : w1.cell? ⟨g, i * 4 + 1, none⟩ = some (.string q.1.2.1)
  k2 : w1.cell? ⟨g, i * 4 + 2, none⟩ = some va
  k3 : w1.cell? ⟨g, i * 4 + 3, none⟩ = some vb
  sh : ∃ ao cap, vb = .slice ao q.2.length cap
theorem rule_at {w1 : World} {s : ByteArray} {g cap : Nat} (h : isRs w1 (Ck.rulesS s) (.slice (some ⟨g, 0, none⟩) (Ck.rulesS s).length cap)) {i : Nat} (hi : i < (Ck.rulesS s).length) : ∃ va vb, Rk w1 (Ck.rulesS s) g i (Ck.rulesS s)[i] va vb := by
  obtain ⟨g', e, hc⟩ := (Rp.isRs_cells h).2 (by omega)
  simp only [Option.some.injEq, Addr.mk.injEq, and_true] at e
  subst e
  obtain ⟨va, vb, hta, hlb, q0, q1, q2, q3⟩ := hc i hi
  have hok := (Ck.read_ok s).2 _ (List.getElem_mem hi)
  exact ⟨va, vb, ⟨va, vb, rfl, hta, hlb⟩, hok, ⟨fun l hl t ht => Ck.read_k s _ (List.getElem_mem hi) l hl t ht, fun l hl => (hok.body l hl).kind⟩, q0, q1, q2, q3, bv_slice hlb⟩
theorem own_max {w : World} {b e s n : Nat} {v : Value} {xs : List Value} (h : w.ownsRow b e s v n xs) : (n : Int) ≤ 9223372036854775807 := by
  rcases Vl.own_shape h with ⟨_, h0⟩ | ⟨_, _, _, h1, h2, _⟩
  · omega
  · unfold maxLen at h2; omega
/-- Both plans of a rule are the same. -/
theorem both {w w3 U w4 : World} {q : Rul} {f : Int} {ov vv o2 v2 : Value} {b : Bool} (h1 : Mg w w3 q.2 f b ov vv) (hb : Below w3.heap.size w3 U) (h2 : Mg U w4 q.2 f b o2 v2) : ∃ O H a1 c1 a2 c2 a3 c3 a4 c4, ov = .slice a1 (O : List Nat).length c1 ∧ vv = .slice a2 (H : List Nm).length c2 ∧ o2 = .slice a3 O.length c3 ∧ v2 = .slice a4 H.length c4 ∧ ((O.length : Int) ≤ 9223372036854775807 ∧ (H.length : Int) ≤ 9223372036854775807) ∧ w4.ownsRow 0 3 1 ov O.length (O.map num) ∧ w4.ownsRow 0 9 1 vv H.length (strs H) ∧ w4.ownsRow 0 3 1 o2 O.length (O.map num) ∧ w4.ownsRow 0 9 1 v2 H.length (strs H) ∧ Below w.heap.size w w4 := by
  obtain ⟨O, H, p1, p2, p3, p4⟩ := h1
  obtain ⟨O', H', r1, r2, r3, r4⟩ := h2
  obtain ⟨rfl, rfl⟩ := p3.one r3
  obtain ⟨a1, c1, e1⟩ := (Sy.own_len p1).2
  obtain ⟨a2, c2, e2⟩ := (Sy.own_len p2).2
  obtain ⟨a3, c3, e3⟩ := (Sy.own_len r1).2
  obtain ⟨a4, c4, e4⟩ := (Sy.own_len r2).2
  exact ⟨O, H, a1, c1, a2, c2, a3, c3, a4, c4, e1, e2, e3, e4, ⟨own_max p1, own_max p2⟩, Lx.own_below (Lx.own_below p1 hb) r4, Lx.own_below (Lx.own_below p2 hb) r4, r1, r2, p4.trans ((hb.trans (r4.mono hb.size)).mono p4.size)⟩

set_option maxRecDepth 4000 in
set_option maxHeartbeats 8000000 in
theorem planAll_any (s : ByteArray) (first : Int) (w : World) : Calls Try.prog 3 #[.string s, .int .i64 first] w fun e w' => e = .returned (.bool true) ∧ Below w.heap.size w w' := by
  have HBG := hide (begun_any w)
  have HRL : Hid (∀ W, Calls Try.prog 5 #[.string s] W fun e w' => (∃ y, e = .returned y ∧ isRs w' (Ck.rulesS s) y) ∧ Below W.heap.size W w') := fun W => Ck.rules_any s W
  have hN : ((Ck.rulesS s).length : Int) ≤ 30 := by have := (Ck.read_ok s).1; omega
  go_enter Try.func3, Try.ntmps3
  go_wp2_with fail
  refine HBG.out.mono ?_
  rintro e w0 ⟨rfl, hb0⟩
  have HB0 := hide hb0
  clear hb0 HBG
  go_wp2_with fail
  refine (HRL.out w0).mono ?_
  rintro e w1 ⟨⟨y, rfl, hy⟩, hb1⟩
  obtain ⟨ao, cap, rfl⟩ := Rp.isRs_shape hy
  have HY := hide hy
  have HB1 := hide (HB0.out.trans (hb1.mono HB0.out.size))
  clear hb1 hy HRL
  obtain ⟨N, HNN⟩ : ∃ N, Hid (N = (Ck.rulesS s).length) := ⟨_, rfl⟩
  rw [← HNN.out] at hN HY
  rw [← HNN.out]
  go_wp2_with fail
  go_loopw [7] (fun iv wr => ∃ i : Nat, iv = .int .i64 (i : Int) ∧ i ≤ N ∧ Hid (Below w1.heap.size w1 wr)) (fun iv _ => N - (intOf iv).toNat)
  case atStart => exact ⟨0, rfl, Nat.zero_le _, Below.refl _ _⟩
  case round =>
    obtain ⟨i, rfl, hi, HI⟩ := hrel
    by_cases hlt : i < N
    · have hltI : (i : Int) < (N : Int) := by omega
      have hi' : i < (Ck.rulesS s).length := by rw [← HNN.out]; exact hlt
      obtain ⟨g, hao, hcx⟩ := (Rp.isRs_cells HY.out).2 (by omega)
      clear hcx
      subst hao
      have HY' := HY.out
      rw [HNN.out] at HY'
      obtain ⟨va, vb, hRk⟩ := rule_at HY' hi'
      clear HY'
      generalize (Ck.rulesS s)[i] = q at *
      have HK := hide hRk
      obtain ⟨aob, capb, hvb⟩ := hRk.sh
      subst hvb
      have hq6 : (q.2.length : Int) ≤ 6 := by have := hRk.ok.few; omega
      have Hq := hide (Ck.okR_same hRk.ok)
      have HCE : Hid (∀ W, Below w1.heap.size w1 W → W.cell? ⟨g, i * 4, none⟩ = some (.int .i64 q.1.1) ∧ W.cell? ⟨g, i * 4 + 1, none⟩ = some (.string q.1.2.1) ∧ W.cell? ⟨g, i * 4 + 2, none⟩ = some va ∧ W.cell? ⟨g, i * 4 + 3, none⟩ = some (.slice aob q.2.length capb)) := fun W hW => ⟨cell_bel hRk.k0 hW, cell_bel hRk.k1 hW, cell_bel hRk.k2 hW, cell_bel hRk.k3 hW⟩
      have HMK : Hid (∀ W (f : Int), Below w1.heap.size w1 W → Calls Try.prog 6 #[.agg #[.int .i64 q.1.1, .string q.1.2.1, va, .slice aob q.2.length capb], .int .i64 f] W fun e w' => ∃ ov vv, e = .returned (.tuple #[.agg #[ov, vv], .bool (mayB q.2 f && Ck.safeR q)]) ∧ Mg W w' q.2 f (mayB q.2 f && Ck.safeR q) ov vv) := fun W f hW => make_any (Ck.isRul_bel hRk.rul hW) hRk.ok f
      have HPL : Hid (∀ W (f : Int), Below w1.heap.size w1 W → Calls Try.prog 7 #[.agg #[.int .i64 q.1.1, .string q.1.2.1, va, .slice aob q.2.length capb], .int .i64 f] W fun e w' => ∃ ov vv, e = .returned (.tuple #[ov, vv, .bool (mayB q.2 f && Ck.safeR q)]) ∧ Mg W w' q.2 f (mayB q.2 f && Ck.safeR q) ov vv) := fun W f hW => by
        have := rplan_any (Ck.isRul_bel hRk.rul hW) hRk.ok hRk.lok f
        rw [← Hq.out] at this
        exact this
      clear hRk HK
      obtain ⟨lk, Hlk⟩ : ∃ lk, Hid (lk = q.1.1) := ⟨_, rfl⟩
      obtain ⟨ln, Hln⟩ : ∃ ln, Hid (ln = q.1.2.1) := ⟨_, rfl⟩
      rw [← Hlk.out, ← Hln.out] at HCE HMK HPL
      obtain ⟨d0, d1, d2, d3⟩ := HCE.out wr HI.out
      clear hi'
      go_wp2_with fail
      clear d0 d1 d2 d3
      go_loopw [8] (fun fv wq => ∃ f : Int, fv = .int .i64 f ∧ -2 ≤ f ∧ f ≤ (q.2.length : Int) + 1 ∧ Hid (Below w1.heap.size w1 wq)) (fun fv _ => ((q.2.length : Int) + 1 - intOf fv).toNat)
      case atStart => exact ⟨-2, rfl, by omega, by omega, HI⟩
      case round =>
        obtain ⟨f, rfl, hf1, hf2, HJ⟩ := hrel
        obtain ⟨d0, d1, d2, d3⟩ := HCE.out wr HJ.out
        obtain ⟨W0, hW0⟩ : ∃ W0, W0 = wr := ⟨_, rfl⟩
        subst hW0
        by_cases hfl : f ≤ (q.2.length : Int)
        · have HM1 := hide (HMK.out W0 f HJ.out)
          obtain ⟨b, Hb⟩ : ∃ b, Hid ((mayB q.2 f && Ck.safeR q) = b) := ⟨_, rfl⟩
          rw [Hb.out] at HM1
          go_wp2_with fail
          refine HM1.out.mono ?_
          rintro e w3 ⟨ov, vv, rfl, hM⟩
          obtain ⟨⟨a1, n1, c1, hov⟩, a2, n2, c2, hvv⟩ := hM.shape
          subst hov
          subst hvv
          have HM2 := hide hM
          have hb3 : Below W0.heap.size W0 w3 := by obtain ⟨_, _, _, _, _, hb⟩ := hM; exact hb
          obtain ⟨U, hU⟩ : ∃ U, U = w3.alloc (.cells #[.slice a1 n1 c1, .slice a2 n2 c2] 34) := ⟨_, rfl⟩
          have hbU : Below w3.heap.size w3 U := by rw [hU]; exact (Below.refl _ w3).alloc (Nat.le_refl _) _
          have hnU : U.heap[w3.heap.size]? = some (.cells #[.slice a1 n1 c1, .slice a2 n2 c2] 34 (0, 0)) := by rw [hU]; exact heap_alloc_new _ _
          have z0 : U.cell? ⟨w3.heap.size, 0, none⟩ = some (.slice a1 n1 c1) := by rw [cell_of_row _ _ 0 _ _ _ hnU]; rfl
          have z1 : U.cell? ⟨w3.heap.size, 1, none⟩ = some (.slice a2 n2 c2) := by rw [cell_of_row _ _ 1 _ _ _ hnU]; rfl
          have hbWU : Below w1.heap.size w1 U := HJ.out.trans ((hb3.trans (hbU.mono hb3.size)).mono HJ.out.size)
          have HP1 := hide (HPL.out U f hbWU)
          rw [Hb.out] at HP1
          have HZ : Hid (∀ W, Below U.heap.size U W → W.cell? ⟨w3.heap.size, 0, none⟩ = some (.slice a1 n1 c1) ∧ W.cell? ⟨w3.heap.size, 1, none⟩ = some (.slice a2 n2 c2)) := fun W hW => ⟨cell_bel z0 hW, cell_bel z1 hW⟩
          have HBO : Hid (∀ w4 o2 v2, Mg U w4 q.2 f b o2 v2 → ∃ O H a1' c1' a2' c2' a3 c3 a4 c4, Value.slice a1 n1 c1 = .slice a1' (O : List Nat).length c1' ∧ Value.slice a2 n2 c2 = .slice a2' (H : List Nm).length c2' ∧ o2 = .slice a3 O.length c3 ∧ v2 = .slice a4 H.length c4 ∧ ((O.length : Int) ≤ 9223372036854775807 ∧ (H.length : Int) ≤ 9223372036854775807) ∧ w4.ownsRow 0 3 1 (Value.slice a1 n1 c1) O.length (O.map num) ∧ w4.ownsRow 0 9 1 (Value.slice a2 n2 c2) H.length (strs H) ∧ w4.ownsRow 0 3 1 o2 O.length (O.map num) ∧ w4.ownsRow 0 9 1 v2 H.length (strs H) ∧ Below W0.heap.size W0 w4) := fun w4 o2 v2 h2 => both HM2.out hbU h2
          obtain ⟨x0, x1, x2, x3⟩ := HCE.out U hbWU
          have eU := hide hU
          have HUU : Hid (∀ w4 o2 v2, Mg U w4 q.2 f b o2 v2 → Below U.heap.size U w4) := fun w4 o2 v2 h => by obtain ⟨_, _, _, _, _, hb⟩ := h; exact hb
          clear hM hU hbU hnU hbWU hb3 HM1 HM2 z0 z1 d0 d1 d2 d3
          go_upto_region 12 with fail
          rw [← eU.out]
          go_wp2_with fail
          refine HP1.out.mono ?_
          rintro e w4 ⟨o2, v2, rfl, hM2⟩
          have hb4 := HUU.out _ _ _ hM2
          obtain ⟨O, H, a1', c1', a2', c2', a3, c3, a4, c4, e1, e2, e3, e4, ⟨hOm, hHm⟩, r1, r2, r3, r4, hb44⟩ := HBO.out _ _ _ hM2
          simp only [Value.slice.injEq] at e1 e2
          obtain ⟨rfl, rfl, rfl⟩ := e1
          obtain ⟨rfl, rfl, rfl⟩ := e2
          subst e3
          subst e4
          obtain ⟨z0, z1⟩ := HZ.out w4 hb4
          have HRW := hide (And.intro r1 (And.intro r2 (And.intro r3 r4)))
          have HB4 := hide (HJ.out.trans (hb44.mono HJ.out.size))
          have gb : (b != b) = false := by simp
          have HZ4 : Hid (∀ W, Below w4.heap.size w4 W → W.cell? ⟨w3.heap.size, 0, none⟩ = some (.slice a1 O.length c1) ∧ W.cell? ⟨w3.heap.size, 1, none⟩ = some (.slice a2 H.length c2)) := fun W hW => ⟨cell_bel z0 hW, cell_bel z1 hW⟩
          clear hM2 hb4 hb44 r1 r2 r3 r4 HP1 HBO HUU HZ x0 x1 x2 x3 eU
          go_wp2_with fail
          clear z0 z1
          go_loopw [14] (fun kv wq => ∃ k : Nat, kv = .int .i64 (k : Int) ∧ k ≤ O.length ∧ Hid (Below w4.heap.size w4 wq)) (fun kv _ => O.length - (intOf kv).toNat)
          case atStart => exact ⟨0, rfl, Nat.zero_le _, Below.refl _ _⟩
          case round =>
            obtain ⟨k, rfl, hk, HK⟩ := hrel
            obtain ⟨z0, z1⟩ := HZ4.out wr HK.out
            by_cases hkl : k < O.length
            · have hklI : (k : Int) < (O.length : Int) := by omega
              obtain ⟨g1, cc, e, _, _, hc1, _⟩ := own_open HRW.out.1 (by omega)
              simp only [Value.slice.injEq] at e
              obtain ⟨rfl, _, rfl⟩ := e
              obtain ⟨g3, cc, e, _, _, hc3, _⟩ := own_open HRW.out.2.2.1 (by omega)
              simp only [Value.slice.injEq] at e
              obtain ⟨rfl, _, rfl⟩ := e
              have hget : (O.map num)[k]? = some (.int .i64 (O[k] : Int)) := by simp [hkl, num]
              have p1 := cell_bel ((hc1 k (by omega)).trans hget) HK.out
              have p3 := cell_bel ((hc3 k (by omega)).trans hget) HK.out
              have HBq : Hid (∀ nq, Below w4.heap.size w4 (wr.drewN nq)) := fun nq => HK.out.trans ((show Below wr.heap.size wr (wr.drewN nq) from ⟨rfl, rfl, rfl, Nat.le_refl _, fun _ _ => rfl⟩).mono HK.out.size)
              have HME : Hid (O.length - (intOf (.int .i64 ((k : Int) + 1))).toNat < O.length - (intOf (.int .i64 (k : Int))).toNat) := by
                show _ < _
                simp [intOf]
                omega
              clear hc1 hc3 hget
              generalize O[k] = okk at *
              have gn : ((okk : Int) != (okk : Int)) = false := by simp
              go_wp2_with fail
              go_big_quiet (fail)
              go_wp2_with fail
              exact ⟨⟨k + 1, by simp, by omega, HBq.out _⟩, HME.out⟩
            · go_wp2_with fail
              clear z0 z1
              go_loopw [15] (fun kv wq => ∃ k : Nat, kv = .int .i64 (k : Int) ∧ k ≤ H.length ∧ Hid (Below w4.heap.size w4 wq)) (fun kv _ => H.length - (intOf kv).toNat)
              case atStart => exact ⟨0, rfl, Nat.zero_le _, HK⟩
              case round =>
                obtain ⟨k2, rfl, hk2, HK2⟩ := hrel
                obtain ⟨z0, z1⟩ := HZ4.out wr HK2.out
                by_cases hkl : k2 < H.length
                · have hklI : (k2 : Int) < (H.length : Int) := by omega
                  obtain ⟨g1, cc, e, _, _, hc1, _⟩ := own_open HRW.out.2.1 (by omega)
                  simp only [Value.slice.injEq] at e
                  obtain ⟨rfl, _, rfl⟩ := e
                  obtain ⟨g3, cc, e, _, _, hc3, _⟩ := own_open HRW.out.2.2.2 (by omega)
                  simp only [Value.slice.injEq] at e
                  obtain ⟨rfl, _, rfl⟩ := e
                  have hget : (strs H)[k2]? = some (.string H[k2].1) := by simp [hkl, strs]
                  have p1 := cell_bel ((hc1 k2 (by omega)).trans hget) HK2.out
                  have p3 := cell_bel ((hc3 k2 (by omega)).trans hget) HK2.out
                  have HBq : Hid (∀ nq, Below w4.heap.size w4 (wr.drewN nq)) := fun nq => HK2.out.trans ((show Below wr.heap.size wr (wr.drewN nq) from ⟨rfl, rfl, rfl, Nat.le_refl _, fun _ _ => rfl⟩).mono HK2.out.size)
                  have HME : Hid (H.length - (intOf (.int .i64 ((k2 : Int) + 1))).toNat < H.length - (intOf (.int .i64 (k2 : Int))).toNat) := by
                    show _ < _
                    simp [intOf]
                    omega
                  clear hc1 hc3 hget
                  generalize H[k2].1 = nmm at *
                  have gn : (nmm.toList != nmm.toList) = false := by simp
                  go_wp2_with fail
                  go_big_quiet (fail)
                  go_wp2_with fail
                  exact ⟨⟨k2 + 1, by simp, by omega, HBq.out _⟩, HME.out⟩
                · have HE := hide (HB4.out.trans (HK2.out.mono HB4.out.size))
                  have HME : Hid (((q.2.length : Int) + 1 - intOf (.int .i64 (f + 1))).toNat < ((q.2.length : Int) + 1 - intOf (.int .i64 f)).toNat) := by
                    show ((q.2.length : Int) + 1 - (f + 1)).toNat < ((q.2.length : Int) + 1 - f).toNat
                    omega
                  clear HK2
                  go_wp2_with fail
                  exact ⟨⟨f + 1, rfl, by omega, by omega, HE.out⟩, HME.out⟩
        · have HM1 := hide (HMK.out W0 first HJ.out)
          obtain ⟨b, Hb⟩ : ∃ b, Hid ((mayB q.2 first && Ck.safeR q) = b) := ⟨_, rfl⟩
          rw [Hb.out] at HM1
          go_wp2_with fail
          refine HM1.out.mono ?_
          rintro e w3 ⟨ov, vv, rfl, hM⟩
          obtain ⟨⟨a1, n1, c1, hov⟩, a2, n2, c2, hvv⟩ := hM.shape
          subst hov
          subst hvv
          have hb3 : Below W0.heap.size W0 w3 := by obtain ⟨_, _, _, _, _, hb⟩ := hM; exact hb
          obtain ⟨U, hU⟩ : ∃ U, U = w3.alloc (.cells #[.slice a1 n1 c1, .slice a2 n2 c2] 34) := ⟨_, rfl⟩
          have hbU : Below w3.heap.size w3 U := by rw [hU]; exact (Below.refl _ w3).alloc (Nat.le_refl _) _
          have hbWU : Below w1.heap.size w1 U := HJ.out.trans ((hb3.trans (hbU.mono hb3.size)).mono HJ.out.size)
          have HP1 := hide (HPL.out U first hbWU)
          rw [Hb.out] at HP1
          obtain ⟨x0, x1, x2, x3⟩ := HCE.out U hbWU
          have eU := hide hU
          have HBW := hide hbWU
          have HUU : Hid (∀ w4 o2 v2, Mg U w4 q.2 first b o2 v2 → Below w1.heap.size w1 w4) := fun w4 o2 v2 h => by obtain ⟨_, _, _, _, _, hb⟩ := h; exact HBW.out.trans (hb.mono HBW.out.size)
          have gb : (b != b) = false := by simp
          have HME : Hid (N - (intOf (.int .i64 ((i : Int) + 1))).toNat < N - (intOf (.int .i64 (i : Int))).toNat) := by
            show _ < _
            simp [intOf]
            omega
          clear hM hU hbU hbWU hb3 HM1 d0 d1 d2 d3 hfl
          go_upto_region 26 with fail
          rw [← eU.out]
          go_wp2_with fail
          refine HP1.out.mono ?_
          rintro e w4 ⟨o2, v2, rfl, hM2⟩
          have HB4 := hide (HUU.out _ _ _ hM2)
          clear hM2 HP1 HUU x0 x1 x2 x3 eU
          go_wp2_with fail
          exact ⟨⟨i + 1, by simp, by omega, HB4⟩, HME.out⟩
    · go_wp2_with fail
      go_ret
      exact ⟨rfl, HB1.out.trans (HI.out.mono HB1.out.size)⟩
end Go.Proofs.Ytjejpjpdfdcnlaa.Qu

/- The walk of CommandSnap. EqReply of two that are the same; CutReply. The walk of CommandReply. What snapshots, commands and bytes that came in read as. What replies that came in read as; every reply that comes in. -/
import Derived.Test.YtgknpbgepgmmmaaPart08
import Derived.BigQuiet
import Derived.WalkKit
import Derived.ProofKit
import Derived.OpenShut
import Derived.ShutString
import Derived.ChangeOld
import Derived.Below
import Derived.Lib.SmallJoins
import Derived.Deep.Slices
import Derived.Deep.Strs
namespace Go.Proofs.Ytgknpbgepgmmmaa.Cm
open Go.RowKit Bn Kp

/-- A snapshot whose lists came in (they are read in w); its block lies at S. -/
def SnS (w W : World) (S : Nat) (s : Snp) : Prop :=
  ∃ ac lc cc ad ld cd, W.heap[S]? = some (.cells #[.int .i64 s.idx, .int .i64 s.term, .slice ac lc cc, .slice ad ld cd] 62 (0, 0)) ∧ SnV w ac lc cc ad ld cd s
theorem SnS.below {w W W' : World} {S : Nat} {s : Snp} (h : SnS w W S s) (hb : Below W.heap.size W W') : SnS w W' S s := by
  obtain ⟨ac, lc, cc, ad, ld, cd, h1, h2⟩ := h
  exact ⟨ac, lc, cc, ad, ld, cd, (hb.block _ (lt_of_block h1)).trans h1, h2⟩
/-- The two snapshots of the law. -/
structure Two (w W : World) (s t : Snp) : Prop where
  s : SnS w W w.heap.size s
  t : SnS w W (w.heap.size + 1) t
  b : Below w.heap.size w W
theorem Two.below {w W W' : World} {s t : Snp} (h : Two w W s t) (hb : Below W.heap.size W W') : Two w W' s t := ⟨h.s.below hb, h.t.below hb, h.b.trans (hb.mono h.b.size)⟩

theorem isR_take {w : World} {ao : Option Addr} {l c : Nat} {ns : List Int} (h : IsR w (.slice ao l c) (cI ns)) (k : Nat) (hk : k ≤ l) : IsR w (.slice ao k c) (cI (ns.take k)) := by
  obtain ⟨ao', c', e, h1, h2, h4⟩ := h
  simp only [Value.slice.injEq] at e
  obtain ⟨rfl, rfl, rfl⟩ := e
  rw [cI_len] at h1 h4 hk
  have hl : (cI (ns.take k)).length = k := by rw [cI_len, List.length_take]; omega
  refine ⟨ao, c, by rw [hl], by omega, h2, fun hp => ?_⟩
  rw [hl] at hp
  obtain ⟨g, off, ha, hc⟩ := h4 (by omega)
  refine ⟨g, off, ha, fun j u hj => hc j u ?_⟩
  have e : cI (ns.take k) = (cI ns).take k := by simp [cI, List.map_take]
  rw [e, List.getElem?_take] at hj
  split at hj
  · exact hj
  · simp at hj

theorem short_v (ao : Option Addr) (l c : Nat) (W : World) (h1 : l ≤ c) (h2 : c ≤ maxLen) :
    Calls Try.prog 14 #[.slice ao l c, .int .i64 100] W fun e w' => e = .returned (.slice ao (min l 100) c) ∧ w' = W := by
  have h2' : c ≤ 9223372036854775807 := h2
  by_cases hl : 100 < l
  · have hl' : (100 : Int) < (l : Int) := by omega
    have hc : (100 : Int) ≤ (c : Int) := by omega
    have hm := hide (Nat.min_eq_right (show 100 ≤ l by omega))
    rw [hm.out]
    clear hl
    go_enter Try.func14, Try.ntmps14
    go_wp2_with fail
    go_ret
    exact ⟨rfl, rfl⟩
  · have hl' : ¬ (100 : Int) < (l : Int) := by omega
    have hm := hide (Nat.min_eq_left (show l ≤ 100 by omega))
    rw [hm.out]
    clear hl
    go_enter Try.func14, Try.ntmps14
    go_wp2_with fail
    go_ret
    exact ⟨rfl, rfl⟩
/-- The data cut to a hundred bytes, the members to nine. -/
def cutD (s : Snp) : Snp := ⟨s.idx, s.term, s.conf, s.data.take 100⟩
def cutN (s : Snp) : Snp := ⟨s.idx, s.term, s.conf.take 9, s.data⟩
theorem sl_take_min {w : World} {ao : Option Addr} {l c : Nat} {bs : List UInt8} (h : Sl w (.slice ao l c) bs) : Sl w (.slice ao (min l 100) c) (bs.take 100) := by
  have hl := h.len
  by_cases h1 : l ≤ 100
  · rw [Nat.min_eq_left h1, List.take_of_length_le (by omega)]
    exact h
  · rw [Nat.min_eq_right (by omega)]
    exact h.take 100 (by omega)

theorem sl_caps {w : World} {ao : Option Addr} {l c : Nat} {bs : List UInt8} (h : Sl w (.slice ao l c) bs) : l ≤ c ∧ c ≤ maxLen := by
  obtain ⟨_, _, e, h1, h2, _⟩ := h
  simp only [Value.slice.injEq] at e
  obtain ⟨rfl, rfl, rfl⟩ := e
  exact ⟨h1, h2⟩
theorem isR_caps {w : World} {ao : Option Addr} {l c : Nat} {xs : List Value} (h : IsR w (.slice ao l c) xs) : l = xs.length ∧ l ≤ c ∧ c ≤ maxLen := by
  obtain ⟨_, _, e, h1, h2, _⟩ := h
  simp only [Value.slice.injEq] at e
  obtain ⟨rfl, rfl, rfl⟩ := e
  exact ⟨rfl, h1, h2⟩

/-- What one block and one text read as. -/
abbrev S4 (P : Nat) (c0 c1 c2 c3 va : Value) (Xa : ByteArray) (u : World) : Prop :=
  u.cell? ⟨P, 0, none⟩ = some c0 ∧ u.cell? ⟨P, 1, none⟩ = some c1 ∧ u.cell? ⟨P, 2, none⟩ = some c2 ∧ u.cell? ⟨P, 3, none⟩ = some c3 ∧ (convert 24 9 va).run Try.prog u = .ok (.string Xa) u
/-- What the two blocks read as. -/
abbrev SS (u w : World) (s1 t1 : Snp) (ac : Option Addr) (nc cc : Nat) (ad : Option Addr) (nd cd : Nat) (bc : Option Addr) (oc dc : Nat) (bd : Option Addr) (ne dd : Nat) : Prop :=
  (u.cell? ⟨w.heap.size, 0, none⟩ = some (.int .i64 s1.idx) ∧ u.cell? ⟨w.heap.size, 1, none⟩ = some (.int .i64 s1.term) ∧ u.cell? ⟨w.heap.size, 2, none⟩ = some (.slice ac nc cc) ∧ u.cell? ⟨w.heap.size, 3, none⟩ = some (.slice ad nd cd)) ∧
  (u.cell? ⟨w.heap.size + 1, 0, none⟩ = some (.int .i64 t1.idx) ∧ u.cell? ⟨w.heap.size + 1, 1, none⟩ = some (.int .i64 t1.term) ∧ u.cell? ⟨w.heap.size + 1, 2, none⟩ = some (.slice bc oc dc) ∧ u.cell? ⟨w.heap.size + 1, 3, none⟩ = some (.slice bd ne dd))
theorem ss_of {W w : World} {s1 t1 : Snp} {ac : Option Addr} {nc cc : Nat} {ad : Option Addr} {nd cd : Nat} {bc : Option Addr} {oc dc : Nat} {bd : Option Addr} {ne dd : Nat} (h1 : W.heap[w.heap.size]? = some (.cells #[.int .i64 s1.idx, .int .i64 s1.term, .slice ac nc cc, .slice ad nd cd] 62 (0, 0))) (h2 : W.heap[w.heap.size + 1]? = some (.cells #[.int .i64 t1.idx, .int .i64 t1.term, .slice bc oc dc, .slice bd ne dd] 62 (0, 0))) : SS W w s1 t1 ac nc cc ad nd cd bc oc dc bd ne dd := ⟨cells_Snp h1, cells_Snp h2⟩

set_option maxRecDepth 4000 in
set_option maxHeartbeats 8000000 in
theorem snap_law {w : World} (s t : Snp) {ac ad bc bd : Option Addr} {lc cc ld cd mc dc md dd : Nat} (hs : SnV w ac lc cc ad ld cd s) (ht : SnV w bc mc dc bd md dd t) (hso : s.ok) (hto : t.ok) (at_ : Int) (x : Int) (hx : 0 ≤ x ∧ x ≤ 255) :
    Calls Try.prog 6 #[.agg #[.int .i64 s.idx, .int .i64 s.term, .slice ac lc cc, .slice ad ld cd], .agg #[.int .i64 t.idx, .int .i64 t.term, .slice bc mc dc, .slice bd md dd], .int .i64 at_, .int .u8 x] w fun e w' => e = .returned (.bool true) ∧ Below w.heap.size w w' := by
  obtain ⟨W0, hW⟩ : ∃ W, Hid (W = (w.alloc (.cells #[.int .i64 s.idx, .int .i64 s.term, .slice ac lc cc, .slice ad ld cd] 62)).alloc (.cells #[.int .i64 t.idx, .int .i64 t.term, .slice bc mc dc, .slice bd md dd] 62)) := ⟨_, (rfl : _ = _)⟩
  have HB0 : Hid (Below w.heap.size w W0) := by rw [hW.out]; exact ((Below.refl _ w).alloc (Nat.le_refl _) _).alloc (by simp) _
  have HX1 : Hid (W0.heap[w.heap.size]? = some (.cells #[.int .i64 s.idx, .int .i64 s.term, .slice ac lc cc, .slice ad ld cd] 62 (0, 0))) := by
    rw [hW.out]
    exact (((Below.refl _ _).alloc (Nat.le_refl _) _).block w.heap.size (by simp)).trans (heap_alloc_new _ _)
  have HX2 : Hid (W0.heap[w.heap.size + 1]? = some (.cells #[.int .i64 t.idx, .int .i64 t.term, .slice bc mc dc, .slice bd md dd] 62 (0, 0))) := by rw [hW.out]; exact heap_alloc2_new _ _ _
  have HG := hide (begun_any W0)
  have HS := hide hs
  have HT := hide ht
  have HSO := hide hso
  have HTO := hide hto
  have hS1 := HS.out.data
  have hT1 := HT.out.data
  obtain ⟨p1, p2⟩ := sl_caps hS1
  obtain ⟨r1, r2⟩ := sl_caps hT1
  have HSH1 := hide (fun W => short_v ad ld cd W p1 p2)
  have HSH2 := hide (fun W => short_v bd md dd W r1 r2)
  obtain ⟨nd, hnd⟩ : ∃ n, Hid (min ld 100 = n) := ⟨_, (rfl : _ = _)⟩
  obtain ⟨ne, hne⟩ : ∃ n, Hid (min md 100 = n) := ⟨_, (rfl : _ = _)⟩
  rw [hnd.out] at HSH1
  rw [hne.out] at HSH2
  have HD1 : Hid (Sl w (.slice ad nd cd) (s.data.take 100)) := by rw [← hnd.out]; exact sl_take_min hS1
  have HD2 : Hid (Sl w (.slice bd ne dd) (t.data.take 100)) := by rw [← hne.out]; exact sl_take_min hT1
  clear hs ht hso hto hS1 hT1 p1 p2 r1 r2
  go_enter Try.func6, Try.ntmps6
  go_upto_region 1 with fail
  rw [← hW.out]
  go_wp2_with fail
  refine Calls.mono HG.out ?_
  rintro e w1 ⟨rfl, HB1⟩
  have hx1 := (HB1.out.block _ (lt_of_block HX1.out)).trans HX1.out
  have hx2 := (HB1.out.block _ (lt_of_block HX2.out)).trans HX2.out
  have HY1 := hide hx1
  have HY2 := hide hx2
  obtain ⟨a0, a1, a2, a3⟩ := cells_Snp hx1
  obtain ⟨b0, b1, b2, b3⟩ := cells_Snp hx2
  have fa := fun i => frozen_of_row w1 _ i _ _ hx1
  have fb := fun i => frozen_of_row w1 _ i _ _ hx2
  have HBw1 := hide (HB0.out.trans (HB1.out.mono HB0.out.size))
  clear HG HB1 hx1 hx2 HX1 HX2
  go_upto_region 4 with fail
  go_cut [] from 19 to 27 (fun wc => wc.heap[w.heap.size]? = some (.cells #[.int .i64 s.idx, .int .i64 s.term, .slice ac lc cc, .slice ad nd cd] 62 (0, 0)) ∧ wc.heap[w.heap.size + 1]? = some (.cells #[.int .i64 t.idx, .int .i64 t.term, .slice bc mc dc, .slice bd ne dd] 62 (0, 0)) ∧ Hid (Below w.heap.size w wc))
  case first =>
    have S1 := hide (HSH1.out w1.drew)
    have S2 := hide (HSH2.out w1.drew)
    have hfin : Hid (((w1.setCell ⟨w.heap.size, 3, none⟩ (.slice ad nd cd)).setCell ⟨w.heap.size + 1, 3, none⟩ (.slice bd ne dd)).heap[w.heap.size]? = some (.cells #[.int .i64 s.idx, .int .i64 s.term, .slice ac lc cc, .slice ad nd cd] 62 (0, 0)) ∧ ((w1.setCell ⟨w.heap.size, 3, none⟩ (.slice ad nd cd)).setCell ⟨w.heap.size + 1, 3, none⟩ (.slice bd ne dd)).heap[w.heap.size + 1]? = some (.cells #[.int .i64 t.idx, .int .i64 t.term, .slice bc mc dc, .slice bd ne dd] 62 (0, 0)) ∧ Hid (Below w.heap.size w ((w1.setCell ⟨w.heap.size, 3, none⟩ (.slice ad nd cd)).setCell ⟨w.heap.size + 1, 3, none⟩ (.slice bd ne dd)))) := by
      refine ⟨?_, ?_, ?_⟩
      · rw [Below.heap_setCell _ _ _ _ (show w.heap.size ≠ w.heap.size + 1 by omega)]
        exact heap_setCell_same w1 _ 3 _ 62 _ HY1.out
      · have h := (Below.heap_setCell w1 ⟨w.heap.size, 3, none⟩ (.slice ad nd cd) (w.heap.size + 1) (show w.heap.size + 1 ≠ w.heap.size by omega)).trans HY2.out
        exact heap_setCell_same _ _ 3 _ 62 _ h
      · exact (HBw1.out.setCell (p := ⟨w.heap.size, 3, none⟩) (Nat.le_refl _) _).setCell (p := ⟨w.heap.size + 1, 3, none⟩) (by show _ ≤ w.heap.size + 1; omega) _
    refine wp_region_noPanic ?_
    go_region_with (first
      | (go_at_call 14; (with_reducible refine Calls.mono S1.out ?_); rintro e w2 ⟨rfl, hw2⟩; have hw2' := hw2.symm; subst hw2')
      | (go_at_call 14; (with_reducible refine Calls.mono S2.out ?_); rintro e w2 ⟨rfl, hw2⟩; have hw2' := hw2.symm; subst hw2'))
    all_goals refine NoPanic.normal ?_
    all_goals go_wp2_with fail
    all_goals go_meet
    all_goals exact ⟨hfin.out.1, hfin.out.2.1, hfin.out.2.2.out.drew⟩
  case rest =>
    obtain ⟨h1, h2, HB2⟩ := hcut
    clear a0 a1 a2 a3 b0 b1 b2 b3 fa fb HSH1 HSH2 HY1 HY2 HBw1
    obtain ⟨w2, hw2⟩ : ∃ x, x = wc := ⟨_, rfl⟩
    subst hw2
    obtain ⟨a0, a1, a2, a3⟩ := cells_Snp h1
    have fa := fun i => frozen_of_row w2 _ i _ _ h1
    have H1 := hide h1
    have H2 := hide h2
    obtain ⟨el, l1, l2⟩ := isR_caps HS.out.conf
    obtain ⟨em, m1, m2⟩ := isR_caps HT.out.conf
    have EL := hide el
    have EM := hide em
    have l2' : cc ≤ 9223372036854775807 := l2
    have m2' : dc ≤ 9223372036854775807 := m2
    clear h1 h2 el em l2 m2
    go_upto_if 30 with fail
    go_cut [] from 30 to 35 (fun wc => ∃ nc, wc.heap[w.heap.size]? = some (.cells #[.int .i64 s.idx, .int .i64 s.term, .slice ac nc cc, .slice ad nd cd] 62 (0, 0)) ∧ wc.heap[w.heap.size + 1]? = some (.cells #[.int .i64 t.idx, .int .i64 t.term, .slice bc mc dc, .slice bd ne dd] 62 (0, 0)) ∧ Hid (Below w.heap.size w wc) ∧ Hid (IsR w (.slice ac nc cc) (cI (s.conf.take 9))))
    case first =>
      by_cases hl : 9 < lc
      · have hlI : (9 : Int) < (lc : Int) := by omega
        have hcI : (9 : Int) ≤ (cc : Int) := by omega
        have hq : Hid ((w2.setCell ⟨w.heap.size, 2, none⟩ (.slice ac 9 cc)).heap[w.heap.size]? = some (.cells #[.int .i64 s.idx, .int .i64 s.term, .slice ac 9 cc, .slice ad nd cd] 62 (0, 0)) ∧ (w2.setCell ⟨w.heap.size, 2, none⟩ (.slice ac 9 cc)).heap[w.heap.size + 1]? = some (.cells #[.int .i64 t.idx, .int .i64 t.term, .slice bc mc dc, .slice bd ne dd] 62 (0, 0)) ∧ Hid (Below w.heap.size w (w2.setCell ⟨w.heap.size, 2, none⟩ (.slice ac 9 cc))) ∧ Hid (IsR w (.slice ac 9 cc) (cI (s.conf.take 9)))) :=
          ⟨heap_setCell_same w2 _ 2 _ 62 _ H1.out, (Below.heap_setCell _ _ _ _ (show w.heap.size + 1 ≠ w.heap.size by omega)).trans H2.out, HB2.out.setCell (p := ⟨w.heap.size, 2, none⟩) (Nat.le_refl _) _, isR_take HS.out.conf 9 (by omega)⟩
        clear hl
        go_wp2_with fail
        go_meet
        exact ⟨9, hq.out⟩
      · have hlI : ¬ (9 : Int) < (lc : Int) := by omega
        have hq : Hid (IsR w (.slice ac lc cc) (cI (s.conf.take 9))) := by
          have h9 := EL.out
          rw [cI_len] at h9
          rw [List.take_of_length_le (by omega)]
          exact HS.out.conf
        clear hl
        go_wp2_with fail
        go_meet
        exact ⟨lc, H1.out, H2.out, HB2, hq⟩
    case rest =>
      obtain ⟨nc, h1, h2, HB3, HN1⟩ := hcut
      clear a0 a1 a2 a3 fa H1 H2 HB2
      obtain ⟨w3, hw3⟩ : ∃ x, x = wc := ⟨_, rfl⟩
      subst hw3
      obtain ⟨b0, b1, b2, b3⟩ := cells_Snp h2
      have fb := fun i => frozen_of_row w3 _ i _ _ h2
      have H1 := hide h1
      have H2 := hide h2
      clear h1 h2
      go_upto_if 38 with fail
      go_cut [] from 38 to 43 (fun wc => ∃ oc, wc.heap[w.heap.size]? = some (.cells #[.int .i64 s.idx, .int .i64 s.term, .slice ac nc cc, .slice ad nd cd] 62 (0, 0)) ∧ wc.heap[w.heap.size + 1]? = some (.cells #[.int .i64 t.idx, .int .i64 t.term, .slice bc oc dc, .slice bd ne dd] 62 (0, 0)) ∧ Hid (Below w.heap.size w wc) ∧ Hid (IsR w (.slice bc oc dc) (cI (t.conf.take 9))))
      case first =>
        by_cases hl : 9 < mc
        · have hlI : (9 : Int) < (mc : Int) := by omega
          have hcI : (9 : Int) ≤ (dc : Int) := by omega
          have hq : Hid ((w3.setCell ⟨w.heap.size + 1, 2, none⟩ (.slice bc 9 dc)).heap[w.heap.size]? = some (.cells #[.int .i64 s.idx, .int .i64 s.term, .slice ac nc cc, .slice ad nd cd] 62 (0, 0)) ∧ (w3.setCell ⟨w.heap.size + 1, 2, none⟩ (.slice bc 9 dc)).heap[w.heap.size + 1]? = some (.cells #[.int .i64 t.idx, .int .i64 t.term, .slice bc 9 dc, .slice bd ne dd] 62 (0, 0)) ∧ Hid (Below w.heap.size w (w3.setCell ⟨w.heap.size + 1, 2, none⟩ (.slice bc 9 dc))) ∧ Hid (IsR w (.slice bc 9 dc) (cI (t.conf.take 9)))) :=
            ⟨(Below.heap_setCell _ _ _ _ (show w.heap.size ≠ w.heap.size + 1 by omega)).trans H1.out, heap_setCell_same w3 _ 2 _ 62 _ H2.out, HB3.out.setCell (p := ⟨w.heap.size + 1, 2, none⟩) (by show _ ≤ w.heap.size + 1; omega) _, isR_take HT.out.conf 9 (by omega)⟩
          clear hl
          go_wp2_with fail
          go_meet
          exact ⟨9, hq.out⟩
        · have hlI : ¬ (9 : Int) < (mc : Int) := by omega
          have hq : Hid (IsR w (.slice bc mc dc) (cI (t.conf.take 9))) := by
            have h9 := EM.out
            rw [cI_len] at h9
            rw [List.take_of_length_le (by omega)]
            exact HT.out.conf
          clear hl
          go_wp2_with fail
          go_meet
          exact ⟨mc, H1.out, H2.out, HB3, hq⟩
      case rest =>
        obtain ⟨oc, h1, h2, HB4, HN2⟩ := hcut
        clear b0 b1 b2 b3 fb H1 H2 HB3 EL EM l1 l2' m1 m2'
        obtain ⟨w4, hw4⟩ : ∃ x, x = wc := ⟨_, rfl⟩
        subst hw4
        obtain ⟨s1, hs1⟩ : ∃ s1 : Snp, Hid (s1 = ⟨s.idx, s.term, s.conf.take 9, s.data.take 100⟩) := ⟨_, (rfl : _ = _)⟩
        obtain ⟨t1, ht1⟩ : ∃ s1 : Snp, Hid (s1 = ⟨t.idx, t.term, t.conf.take 9, t.data.take 100⟩) := ⟨_, (rfl : _ = _)⟩
        have hi1 : s.idx = s1.idx := by rw [hs1.out]
        have hi2 : s.term = s1.term := by rw [hs1.out]
        have hi3 : t.idx = t1.idx := by rw [ht1.out]
        have hi4 : t.term = t1.term := by rw [ht1.out]
        have HV1 : Hid (SnV w ac nc cc ad nd cd s1) := by rw [hs1.out]; exact ⟨HN1.out, HD1.out⟩
        have HV2 : Hid (SnV w bc oc dc bd ne dd t1) := by rw [ht1.out]; exact ⟨HN2.out, HD2.out⟩
        have HO1 : Hid (s1.ok ∧ s1.conf.length ≤ 9 ∧ s1.data.length ≤ 100) := by
          obtain ⟨o1, o2, o3, o4, o5⟩ := HSO.out
          rw [hs1.out]
          refine ⟨⟨o1, o2, fun n hn => o3 n (List.mem_of_mem_take hn), ?_, ?_⟩, ?_, ?_⟩
          · simp only [List.length_take]; omega
          · simp only [List.length_take]; omega
          · simp only [List.length_take]; omega
          · simp only [List.length_take]; omega
        have HO2 : Hid (t1.ok ∧ t1.conf.length ≤ 9 ∧ t1.data.length ≤ 100) := by
          obtain ⟨o1, o2, o3, o4, o5⟩ := HTO.out
          rw [ht1.out]
          refine ⟨⟨o1, o2, fun n hn => o3 n (List.mem_of_mem_take hn), ?_, ?_⟩, ?_, ?_⟩
          · simp only [List.length_take]; omega
          · simp only [List.length_take]; omega
          · simp only [List.length_take]; omega
          · simp only [List.length_take]; omega
        rw [hi1, hi2] at h1
        rw [hi3, hi4] at h2
        have H1 := hide h1
        have H2 := hide h2
        clear HS HT HSO HTO HD1 HD2 HN1 HN2 hnd hne h1 h2 hs1 ht1 hi1 hi2 hi3 hi4
        have HC1 : Hid (Calls Try.prog 26 #[.agg #[.int .i64 s1.idx, .int .i64 s1.term, .slice ac nc cc, .slice ad nd cd]] w4.drew fun e w5 => ∃ ao L cap, e = .returned (.slice ao L cap) ∧ (w5.heap[w.heap.size]? = some (.cells #[.int .i64 s1.idx, .int .i64 s1.term, .slice ac nc cc, .slice ad nd cd] 62 (0, 0)) ∧ w5.heap[w.heap.size + 1]? = some (.cells #[.int .i64 t1.idx, .int .i64 t1.term, .slice bc oc dc, .slice bd ne dd] 62 (0, 0))) ∧ Hid (Below w.heap.size w w5 ∧ w5.ownsRow w4.heap.size 5 1 (.slice ao L cap) (encS' s1).length (cells8 (encS' s1)))) := by
          refine (snap_enc s1 (HV1.out.below HB4.out.drew) HO1.out.1 (by have := HO1.out.2.1; omega) (by have := HO1.out.2.2; omega)).mono ?_
          rintro e w5 ⟨ao, L, cap, rfl, hp⟩
          exact ⟨ao, L, cap, rfl, ⟨(hp.out.2.block _ (lt_of_block H1.out)).trans H1.out, (hp.out.2.block _ (lt_of_block H2.out)).trans H2.out⟩, HB4.out.drew.trans (hp.out.2.mono HB4.out.drew.size), hp.out.1⟩
        have HC2 : Hid (∀ w5 : World, Below w.heap.size w w5 → w5.heap[w.heap.size]? = some (.cells #[.int .i64 s1.idx, .int .i64 s1.term, .slice ac nc cc, .slice ad nd cd] 62 (0, 0)) → w5.heap[w.heap.size + 1]? = some (.cells #[.int .i64 t1.idx, .int .i64 t1.term, .slice bc oc dc, .slice bd ne dd] 62 (0, 0)) → Calls Try.prog 26 #[.agg #[.int .i64 t1.idx, .int .i64 t1.term, .slice bc oc dc, .slice bd ne dd]] w5 fun e w6 => ∃ ao L cap, e = .returned (.slice ao L cap) ∧ (w6.heap[w.heap.size]? = some (.cells #[.int .i64 s1.idx, .int .i64 s1.term, .slice ac nc cc, .slice ad nd cd] 62 (0, 0)) ∧ w6.heap[w.heap.size + 1]? = some (.cells #[.int .i64 t1.idx, .int .i64 t1.term, .slice bc oc dc, .slice bd ne dd] 62 (0, 0))) ∧ Hid (Below w5.heap.size w5 w6 ∧ w6.ownsRow w5.heap.size 5 1 (.slice ao L cap) (encS' t1).length (cells8 (encS' t1)))) := fun w5 hb g1 g2 => by
          refine (snap_enc t1 (HV2.out.below hb) HO2.out.1 (by have := HO2.out.2.1; omega) (by have := HO2.out.2.2; omega)).mono ?_
          rintro e w6 ⟨ao, L, cap, rfl, hp⟩
          exact ⟨ao, L, cap, rfl, ⟨(hp.out.2.block _ (lt_of_block g1)).trans g1, (hp.out.2.block _ (lt_of_block g2)).trans g2⟩, hp.out.2, hp.out.1⟩
        go_upto_region 9 with fail
        go_cut [10, 11] from 43 to 47 (fun va vb wc => ∃ aa la ca ab lb cb, va = .slice aa la ca ∧ vb = .slice ab lb cb ∧ wc.heap[w.heap.size]? = some (.cells #[.int .i64 s1.idx, .int .i64 s1.term, .slice ac nc cc, .slice ad nd cd] 62 (0, 0)) ∧ wc.heap[w.heap.size + 1]? = some (.cells #[.int .i64 t1.idx, .int .i64 t1.term, .slice bc oc dc, .slice bd ne dd] 62 (0, 0)) ∧ Hid (Below w.heap.size w wc ∧ Sl wc (.slice aa la ca) (encS' s1) ∧ Sl wc (.slice ab lb cb) (encS' t1)))
        case first =>
          have d0 : SS w4 w s1 t1 ac nc cc ad nd cd bc oc dc bd ne dd := ss_of H1.out H2.out
          have d1 : SS w4.drew w s1 t1 ac nc cc ad nd cd bc oc dc bd ne dd := ss_of (W := w4.drew) H1.out H2.out
          refine wp_region_noPanic ?_
          go_region_held (fun u => SS u w s1 t1 ac nc cc ad nd cd bc oc dc bd ne dd) (first | with_reducible exact d0 | with_reducible exact d1 | with_reducible exact d2 | with_reducible exact d3)
            (first
              | (go_at_call 26; first
                | (have mm := HC3; (with_reducible refine Calls.mono HC3.out ?_); rintro e w6 ⟨ab, lb, cb, rfl, g6, HP6⟩; have d3 : SS w6 w s1 t1 ac nc cc ad nd cd bc oc dc bd ne dd := ss_of g6.1 g6.2)
                | ((with_reducible refine Calls.mono HC1.out ?_); rintro e w5 ⟨aa, la, ca, rfl, g5, HP5⟩; have d2 : SS w5 w s1 t1 ac nc cc ad nd cd bc oc dc bd ne dd := ss_of g5.1 g5.2; have HC3 := hide (HC2.out w5 HP5.out.1 g5.1 g5.2))))
          all_goals refine NoPanic.normal ?_
          all_goals go_wp2_with fail
          all_goals go_meet
          all_goals exact ⟨aa, la, ca, ab, lb, cb, rfl, rfl, g6.1, g6.2, HP5.out.1.trans (HP6.out.1.mono HP5.out.1.size), (Sl.of_own HP5.out.2).below HP6.out.1, Sl.of_own HP6.out.2⟩
        case rest =>
          obtain ⟨aa, la, ca, ab, lb, cb, rfl, rfl, h1, h2, HQ⟩ := hcut
          clear HC1 HC2 H1 H2 HB4
          obtain ⟨w5, hw5⟩ : ∃ x, x = wc := ⟨_, rfl⟩
          subst hw5
          have H1 := hide h1
          have H2 := hide h2
          clear h1 h2
          have HL1 : Hid ((encS' s1).length ≤ 900000) := by
            have h := encS_len s1
            have h' := HO1.out
            show _ ≤ _
            omega
          have HR := hide (readSnap_yes HQ.out.2.1 HL1.out (rSnp_enc s1 HO1.out.1))
          go_wp2_with fail
          refine Calls.mono HR.out ?_
          rintro e w6 ⟨kc, klc, kcc, kd, kld, kcd, rfl, HP6⟩
          clear HR
          obtain ⟨w7, hw7⟩ : ∃ x, Hid (x = w6.alloc (.cells #[.int .i64 s1.idx, .int .i64 s1.term, .slice kc klc kcc, .slice kd kld kcd] 62)) := ⟨_, (rfl : _ = _)⟩
          have HB67 : Hid (Below w5.heap.size w5 w7) := by rw [hw7.out]; exact HP6.out.2.alloc HP6.out.2.size _
          have HK : Hid (w7.heap[w6.heap.size]? = some (.cells #[.int .i64 s1.idx, .int .i64 s1.term, .slice kc klc kcc, .slice kd kld kcd] 62 (0, 0))) := by rw [hw7.out]; exact heap_alloc_new _ _
          have HKV : Hid (SnV w7 kc klc kcc kd kld kcd s1) := by rw [hw7.out]; exact HP6.out.1.below ((Below.refl _ _).alloc (Nat.le_refl _) _)
          have HB7 := hide (HQ.out.1.trans (HB67.out.mono HQ.out.1.size))
          have HA7 := hide (HQ.out.2.1.below HB67.out)
          have HBb7 := hide (HQ.out.2.2.below HB67.out)
          have G1 := hide ((HB67.out.block _ (lt_of_block H1.out)).trans H1.out)
          have G2 := hide ((HB67.out.block _ (lt_of_block H2.out)).trans H2.out)
          clear H1 H2 HP6 HB67 HQ
          go_upto_region 11 with fail
          rw [← hw7.out]
          obtain ⟨P, hP⟩ : ∃ P, Hid (w6.heap.size = P) := ⟨_, (rfl : _ = _)⟩
          rw [hP.out] at HK ⊢
          obtain ⟨r, hr⟩ : ∃ r, Hid (eqS s1 t1 = r) := ⟨_, (rfl : _ = _)⟩
          obtain ⟨Xa, hXa⟩ : ∃ X : ByteArray, Hid (⟨(encS' s1).toArray⟩ = X) := ⟨_, (rfl : _ = _)⟩
          obtain ⟨Xb, hXb⟩ : ∃ X : ByteArray, Hid (⟨(encS' t1).toArray⟩ = X) := ⟨_, (rfl : _ = _)⟩
          have hbeq : (Xa.toList == Xb.toList) = r := by rw [← hXa.out, ← hXb.out, beq_tx, encS_inj s1 t1 HO1.out.1 HO2.out.1, hr.out]
          have HBEQ := hide hbeq
          have HSS : Hid (∀ u, Below w7.heap.size w7 u → S11 P w.heap.size (w.heap.size + 1) (.int .i64 s1.idx) (.int .i64 s1.term) (.slice kc klc kcc) (.slice kd kld kcd) (.int .i64 s1.idx) (.int .i64 s1.term) (.slice ac nc cc) (.slice ad nd cd) (.int .i64 t1.idx) (.int .i64 t1.term) (.slice bc oc dc) (.slice bd ne dd) (.slice aa la ca) (.slice ab lb cb) Xa Xb u) := fun u hu => by
            obtain ⟨x0, x1, x2, x3⟩ := cells_Snp ((hu.block _ (lt_of_block HK.out)).trans HK.out)
            obtain ⟨y0, y1, y2, y3⟩ := cells_Snp ((hu.block _ (lt_of_block G1.out)).trans G1.out)
            obtain ⟨z0, z1, z2, z3⟩ := cells_Snp ((hu.block _ (lt_of_block G2.out)).trans G2.out)
            exact ⟨x0, x1, x2, x3, y0, y1, y2, y3, z0, z1, z2, z3, conv_sl_any (HA7.out.below hu) hXa.out, conv_sl_any (HBb7.out.below hu) hXb.out⟩
          have HE1 : Hid (Calls Try.prog 28 #[.agg #[.int .i64 s1.idx, .int .i64 s1.term, .slice kc klc kcc, .slice kd kld kcd], .agg #[.int .i64 s1.idx, .int .i64 s1.term, .slice ac nc cc, .slice ad nd cd]] w7.drew fun e w8 => e = .returned (.bool true) ∧ Hid (Below w7.heap.size w7 w8)) := by
            refine (eqSnap_any s1 s1 (HKV.out.below (Below.refl _ _).drew) (HV1.out.below HB7.out.drew)).mono ?_
            rintro e w8 ⟨rfl, hp⟩
            exact ⟨by rw [(eqS_iff s1 s1).2 rfl], (Below.refl _ _).drew.trans hp.out⟩
          have HE2 : Hid (∀ w8 : World, Below w7.heap.size w7 w8 → Calls Try.prog 28 #[.agg #[.int .i64 s1.idx, .int .i64 s1.term, .slice ac nc cc, .slice ad nd cd], .agg #[.int .i64 t1.idx, .int .i64 t1.term, .slice bc oc dc, .slice bd ne dd]] w8 fun e w9 => e = .returned (.bool r) ∧ Hid (Below w7.heap.size w7 w9)) := fun w8 h8 => by
            have hb8 := HB7.out.trans (h8.mono HB7.out.size)
            have h := eqSnap_any s1 t1 (HV1.out.below hb8) (HV2.out.below hb8)
            rw [hr.out] at h
            refine h.mono ?_
            rintro e w9 ⟨rfl, hp⟩
            exact ⟨rfl, h8.trans (hp.out.mono h8.size)⟩
          clear hbeq
          go_cut [70] from 52 to 71 (fun v wc => v = .bool false ∧ Hid (Below w.heap.size w wc ∧ Sl wc (.slice aa la ca) (encS' s1)))
          case first =>
            have d0 := HSS.out w7 (Below.refl _ _)
            have d1 := HSS.out w7.drew (Below.refl _ _).drew
            cases r
            all_goals
              have hbq := HBEQ.out
              refine wp_region_noPanic ?_
              go_region_held (fun u => S11 P w.heap.size (w.heap.size + 1) (.int .i64 s1.idx) (.int .i64 s1.term) (.slice kc klc kcc) (.slice kd kld kcd) (.int .i64 s1.idx) (.int .i64 s1.term) (.slice ac nc cc) (.slice ad nd cd) (.int .i64 t1.idx) (.int .i64 t1.term) (.slice bc oc dc) (.slice bd ne dd) (.slice aa la ca) (.slice ab lb cb) Xa Xb u) (first | with_reducible exact d0 | with_reducible exact d1 | with_reducible exact d2 | with_reducible exact d3)
                (first
                  | (go_at_call 28; first
                    | (have mm := HE3; (with_reducible refine Calls.mono HE3.out ?_); rintro e w9 ⟨rfl, HP9⟩; have d3 := HSS.out w9 HP9.out)
                    | ((with_reducible refine Calls.mono HE1.out ?_); rintro e w8 ⟨rfl, HP8⟩; have d2 := HSS.out w8 HP8.out; have HE3 := hide (HE2.out w8 HP8.out))))
              refine NoPanic.normal ?_
              go_wp2_with fail
              go_meet
              exact ⟨rfl, HB7.out.trans (HP9.out.mono HB7.out.size), HA7.out.below HP9.out⟩
          case rest =>
            obtain ⟨rfl, HQ⟩ := hcut
            clear HBEQ HSS HE1 HE2 hXa hXb hr HK HKV HB7 HA7 HBb7 G1 G2 hP hw7 HV1 HV2 HO2
            obtain ⟨w8, hw8⟩ : ∃ x, x = wc := ⟨_, rfl⟩
            subst hw8
            obtain ⟨i, hi, hz0, hz1, hz2⟩ := info_parts Try.info5
            obtain ⟨bs, hbs⟩ : ∃ bs, Hid (encS' s1 = bs) := ⟨_, (rfl : _ = _)⟩
            have hbl : 0 < bs.length ∧ bs.length ≤ 900000 := by rw [← hbs.out]; exact ⟨encS_pos s1, HL1.out⟩
            rw [hbs.out] at HQ
            go_upto_region 13 with fail
            go_upto_region 14 with (at_builtin; refine wpList_append_sl _ rfl _ (.tmp 71) 24 rfl w8.heap.size i Try.underlying24 hi hz0 hz1 hz2 (.slice none 0 0) (.slice aa la ca) [] bs rfl (World.ownsRow_nil _ _ _ _) rfl HQ.out.2 (by simp; omega) (Nat.le_refl _) ?_)
            intro yv w9 hown hgrow hat9
            have hb9 : Below w8.heap.size w8 w9 := ⟨hgrow.os, hgrow.tape, hgrow.output, hgrow.size, fun k hk => hgrow.block k hk (by simp [Value.ownBlock])⟩
            have HB9 := hide (HQ.out.1.trans (hb9.mono HQ.out.1.size))
            have HO9 := hide (own_low hown HQ.out.1.size)
            obtain ⟨g, cap, rfl, -, hcp, hgl⟩ : ∃ g cap, yv = .slice (some ⟨g, 0, none⟩) bs.length cap ∧ bs.length ≤ cap ∧ cap ≤ maxLen ∧ g < w9.heap.size := by
              rcases Kp.own_shape hown with ⟨_, h0⟩ | ⟨g, cap, h, h2, h3, h4⟩
              · omega
              · exact ⟨g, cap, h, h2, h3, h4⟩
            have hgw := own_ge HO9.out g rfl
            clear hown hgrow hat9 hb9
            have HGW := hide hgw
            obtain ⟨N, hN⟩ : ∃ N, Hid (bs.length = N) := ⟨_, (rfl : _ = _)⟩
            rw [hN.out] at hbl HO9 ⊢
            have hN0 : (0 : Int) < (N : Int) := by omega
            have hN1 : (N : Int) ≤ 900000 := by omega
            go_upto_region 14 with fail
            go_cut [79] from 73 to 80 (fun v wc => v = .bool (decide (0 ≤ at_)) ∧ Hid (wc.ownsRow w.heap.size 5 1 (.slice (some ⟨g, 0, none⟩) N cap) N (cells8 bs) ∧ Below w.heap.size w wc))
            case first =>
              by_cases ha : 0 ≤ at_
              · have e := hide (decide_eq_true ha)
                go_wp2_with fail
                go_meet
                refine ⟨?_, HO9.out, HB9.out⟩
                first | rw [e.out] | exact ha | (simp; omega)
              · have ha' : ¬ (0 : Int) ≤ at_ := ha
                have e := hide (decide_eq_false ha)
                go_wp2_with fail
                go_meet
                refine ⟨?_, HO9.out, HB9.out⟩
                first | rw [e.out] | exact ha | (simp; omega)
            case rest =>
              obtain ⟨rfl, HO10⟩ := hcut
              clear HO9 HB9
              obtain ⟨w10, hw10⟩ : ∃ x, x = wc := ⟨_, rfl⟩
              subst hw10
              go_upto_if 79 with fail
              go_cut [] from 79 to 90 (fun wc => ∃ ys : List UInt8, ys.length = N ∧ Hid (wc.ownsRow w.heap.size 5 1 (.slice (some ⟨g, 0, none⟩) N cap) ys.length (cells8 ys) ∧ Below w.heap.size w wc))
              case first =>
                by_cases ha : 0 ≤ at_
                · obtain ⟨k, hk, hkN⟩ : ∃ k : Nat, at_.tmod N = (k : Int) ∧ k < N := by
                    rw [Int.tmod_eq_emod_of_nonneg ha]
                    have h1 := Int.emod_nonneg at_ (show (N : Int) ≠ 0 by omega)
                    have h2 := Int.emod_lt_of_pos at_ hN0
                    exact ⟨(at_ % N).toNat, by omega, by omega⟩
                  have hc := HO10.out.1.cellAt k (by omega)
                  rw [cells8_at bs k (by rw [hN.out]; exact hkN)] at hc
                  have hf := HO10.out.1.frozenAt k
                  have hkI : (k : Int) < (N : Int) := by omega
                  have hcI : (N : Int) ≤ 9223372036854775807 := by omega
                  have hk0 : 0 ≤ at_.tmod N := by omega
                  obtain ⟨y, hy⟩ := xor8 bs k x hx
                  have HY := hide hy
                  clear hy
                  go_wp2_with fail
                  go_meet
                  rw [HY.out]
                  have h9 := HO10.out.1
                  rw [← hN.out] at h9
                  refine ⟨bs.set k y, by rw [List.length_set]; exact hN.out, ?_, HO10.out.2.setCell (p := ⟨g, k, none⟩) HGW.out _⟩
                  have h10 := own_put h9 (by rw [hN.out]; exact hkN) y
                  rw [hN.out] at h10
                  exact h10
                · have ha' : ¬ (0 : Int) ≤ at_ := ha
                  go_wp2_with fail
                  go_meet
                  exact ⟨bs, hN.out, by rw [hN.out]; exact HO10.out.1, HO10.out.2⟩
              case rest =>
                obtain ⟨ys, hys, HO11⟩ := hcut
                have HYS := hide hys
                clear HO10 hys
                obtain ⟨w11, hw11⟩ : ∃ x, x = wc := ⟨_, rfl⟩
                subst hw11
                have HYL : Hid (ys.length ≤ 900000) := by show _ ≤ _; rw [HYS.out]; omega
                have HSY := hide (Sl.of_own HO11.out.1)
                have HB11 := hide HO11.out.2
                clear HO11 hbl
                cases hok : okB (rSnp (some ys)).1.2 (rSnp (some ys)).2
                · have HR := hide (readSnap_no HSY.out HYL.out hok)
                  clear hok
                  go_wp2_with fail
                  refine Calls.mono HR.out ?_
                  rintro e w12 ⟨rfl, HB12⟩
                  have HBe := hide ((HB11.out.trans (HB12.out.mono HB11.out.size)))
                  clear HR
                  go_wp2_with fail
                  go_ret
                  exact ⟨rfl, HBe.out.alloc HBe.out.size _⟩
                · have HR := hide (readSnap_ok HSY.out HYL.out hok)
                  have HZO := hide (rSnp_ok ys HYL.out hok)
                  have HZB := hide (rSnp_back ys hok)
                  clear hok
                  obtain ⟨z, hz⟩ : ∃ z, Hid ((rSnp (some ys)).1.1 = z) := ⟨_, (rfl : _ = _)⟩
                  rw [hz.out] at HR HZO HZB
                  go_wp2_with fail
                  refine Calls.mono HR.out ?_
                  rintro e w12 ⟨zc, zlc, zcc, zd, zld, zcd, rfl, HP12⟩
                  clear HR
                  obtain ⟨w13, hw13⟩ : ∃ x, Hid (x = w12.alloc (.cells #[.int .i64 z.idx, .int .i64 z.term, .slice zc zlc zcc, .slice zd zld zcd] 62)) := ⟨_, (rfl : _ = _)⟩
                  have HB13 : Hid (Below w11.heap.size w11 w13) := by rw [hw13.out]; exact HP12.out.2.alloc HP12.out.2.size _
                  have HK13 : Hid (w13.heap[w12.heap.size]? = some (.cells #[.int .i64 z.idx, .int .i64 z.term, .slice zc zlc zcc, .slice zd zld zcd] 62 (0, 0))) := by rw [hw13.out]; exact heap_alloc_new _ _
                  have HV13 : Hid (SnV w13 zc zlc zcc zd zld zcd z) := by rw [hw13.out]; exact HP12.out.1.below ((Below.refl _ _).alloc (Nat.le_refl _) _)
                  obtain ⟨Y, hY⟩ : ∃ X : ByteArray, Hid (⟨ys.toArray⟩ = X) := ⟨_, (rfl : _ = _)⟩
                  have HCY : Hid (∀ u, Below w13.heap.size w13 u → (convert 24 9 (.slice (some ⟨g, 0, none⟩) N cap)).run Try.prog u = .ok (.string Y) u) := fun u hu => conv_sl_any ((HSY.out.below HB13.out).below hu) hY.out
                  have HSN : Hid (Calls Try.prog 26 #[.agg #[.int .i64 z.idx, .int .i64 z.term, .slice zc zlc zcc, .slice zd zld zcd]] w13.drew fun e w14 => ∃ ao L c, e = .returned (.slice ao L c) ∧ Hid ((convert 24 9 (.slice ao L c)).run Try.prog w14 = .ok (.string Y) w14 ∧ Below w13.heap.size w13 w14)) := by
                    refine (snap_enc z (HV13.out.below (Below.refl _ _).drew) HZO.out.1 (by have := HZO.out.2.1; omega) (by have := HZO.out.2.2; omega)).mono ?_
                    rintro e w14 ⟨ao, L, c, rfl, hp⟩
                    have hown := hp.out.1
                    rw [HZB.out] at hown
                    exact ⟨ao, L, c, rfl, conv_sl_any (Sl.of_own hown) hY.out, (Below.refl _ _).drew.trans hp.out.2⟩
                  have HBe := hide (HB11.out.trans (HB13.out.mono HB11.out.size))
                  have hyy : (Y.toList == Y.toList) = true := by simp
                  clear HP12 HV13 HZO HZB HB13 HSY
                  go_upto_region 19 with fail
                  rw [← hw13.out]
                  obtain ⟨Q, hQ⟩ : ∃ P, Hid (w12.heap.size = P) := ⟨_, (rfl : _ = _)⟩
                  rw [hQ.out] at HK13 ⊢
                  have HS13 : Hid (∀ u, Below w13.heap.size w13 u → S4 Q (.int .i64 z.idx) (.int .i64 z.term) (.slice zc zlc zcc) (.slice zd zld zcd) (.slice (some ⟨g, 0, none⟩) N cap) Y u) := fun u hu => by
                    obtain ⟨x0, x1, x2, x3⟩ := cells_Snp ((hu.block _ (lt_of_block HK13.out)).trans HK13.out)
                    exact ⟨x0, x1, x2, x3, HCY.out u hu⟩
                  have d0 := HS13.out w13 (Below.refl _ _)
                  have d1 := HS13.out w13.drew (Below.refl _ _).drew
                  clear HCY HK13
                  refine wp_region_noPanic ?_
                  go_region_held (fun u => S4 Q (.int .i64 z.idx) (.int .i64 z.term) (.slice zc zlc zcc) (.slice zd zld zcd) (.slice (some ⟨g, 0, none⟩) N cap) Y u) (first | with_reducible exact d0 | with_reducible exact d1 | with_reducible exact d2)
                    (first
                      | (go_at_call 26; (with_reducible refine Calls.mono HSN.out ?_); rintro e w14 ⟨ao, L, c, rfl, HP14⟩; have hcv := HP14.out.1; have d2 := HS13.out w14 HP14.out.2))
                  all_goals refine NoPanic.normal ?_
                  all_goals go_wp2_with fail
                  all_goals go_ret
                  all_goals exact ⟨rfl, HBe.out.trans (HP14.out.2.mono HBe.out.size)⟩

end Go.Proofs.Ytgknpbgepgmmmaa.Cm
namespace Go.Proofs.Ytgknpbgepgmmmaa.Cm
open Go.RowKit Bn Kp

theorem cT_len (ts : List (List UInt8)) : (cT ts).length = ts.length := by simp [cT]
theorem neq_self (s : ByteArray) : (s.toList != s.toList) = false := by simp

set_option maxRecDepth 4000 in
set_option maxHeartbeats 2000000 in
theorem eqRp_same {w : World} (r : Rp) {aa ab : Option Addr} {la ca lb cb : Nat} (ha : RpV w aa la ca r) (hb : RpV w ab lb cb r) :
    Calls Try.prog 21 #[.agg #[.int .i64 r.err, .bool r.ch, .slice aa la ca], .agg #[.int .i64 r.err, .bool r.ch, .slice ab lb cb]] w fun e w' => e = .returned (.bool true) ∧ Hid (Below w.heap.size w w') := by
  obtain ⟨W, hW⟩ : ∃ W, Hid (W = (w.alloc (.cells #[.int .i64 r.err, .bool r.ch, .slice aa la ca] 44)).alloc (.cells #[.int .i64 r.err, .bool r.ch, .slice ab lb cb] 44)) := ⟨_, (rfl : _ = _)⟩
  have HB : Hid (Below w.heap.size w W) := by rw [hW.out]; exact ((Below.refl _ w).alloc (Nat.le_refl _) _).alloc (by simp) _
  have h1 : W.heap[w.heap.size]? = some (.cells #[.int .i64 r.err, .bool r.ch, .slice aa la ca] 44 (0, 0)) := by
    rw [hW.out]
    exact (((Below.refl _ _).alloc (Nat.le_refl _) _).block w.heap.size (by simp)).trans (heap_alloc_new _ _)
  have h2 : W.heap[w.heap.size + 1]? = some (.cells #[.int .i64 r.err, .bool r.ch, .slice ab lb cb] 44 (0, 0)) := by rw [hW.out]; exact heap_alloc2_new _ _ _
  obtain ⟨ao, cap, e1, a1, a2, a4⟩ := (ha.below HB.out).rows
  obtain ⟨bo, bap, e2, b1, b2, b4⟩ := (hb.below HB.out).rows
  rw [cT_len] at e1 a1 a4 e2 b1 b4
  simp only [Value.slice.injEq] at e1 e2
  obtain ⟨rfl, rfl, rfl⟩ := e1
  obtain ⟨rfl, rfl, rfl⟩ := e2
  obtain ⟨x0, x1, x2⟩ := cells_Rep h1
  obtain ⟨y0, y1, y2⟩ := cells_Rep h2
  have a2' : ca ≤ 9223372036854775807 := a2
  have b2' : cb ≤ 9223372036854775807 := b2
  have A4 := hide a4
  have B4 := hide b4
  obtain ⟨N, hN⟩ : ∃ N, Hid (r.rows.length = N) := ⟨_, (rfl : _ = _)⟩
  rw [hN.out] at a1 b1 A4 B4 x2 y2 ⊢
  rw [hN.out] at hW
  have g1 : (r.err != r.err) = false := by simp
  have g2 : (r.ch != r.ch) = false := by simp
  have g3 : ((N : Int) != N) = false := by simp
  clear a4 b4 h1 h2 ha hb a2 b2
  go_enter Try.func21, Try.ntmps21
  go_upto_region 1 with fail
  rw [← hW.out]
  go_wp2_with fail
  go_loopw [5] (fun i wr => ∃ k m : Nat, k ≤ N ∧ i = .int .i64 k ∧ wr = W.drewN m) (fun i _ => N - (intOf i).toNat)
  case atStart => exact ⟨0, 0, Nat.zero_le _, rfl, rfl⟩
  case round =>
    obtain ⟨k, m, hk, rfl, rfl⟩ := hrel
    have x2m : (W.drewN m).cell? ⟨w.heap.size, 2, none⟩ = some (.slice aa N ca) := x2
    have y2m : (W.drewN m).cell? ⟨w.heap.size + 1, 2, none⟩ = some (.slice ab N cb) := y2
    by_cases hx : k < N
    · obtain ⟨ga, oa, rfl, hca⟩ := A4.out (by omega)
      obtain ⟨gb, ob, rfl, hcb⟩ := B4.out (by omega)
      obtain ⟨t, ht⟩ : ∃ e, r.rows[k]? = some e := ⟨_, List.getElem?_eq_getElem (by rw [hN.out]; exact hx)⟩
      have cka := hca k _ (cT_at r.rows k t ht)
      have ckb := hcb k _ (cT_at r.rows k t ht)
      obtain ⟨T, hT⟩ : ∃ T : ByteArray, Hid (⟨t.toArray⟩ = T) := ⟨_, (rfl : _ = _)⟩
      rw [tx, hT.out] at cka ckb
      have hne := neq_self T
      clear hca hcb ht
      go_upto_region 6 with fail
      go_big_quiet (fail)
      go_wp2_with fail
      go_roundw
      case rel => exact ⟨k + 1, _, by omega, rfl, rfl⟩
      case measure => simp [intOf]; omega
    · have hlt' : ¬ (k : Int) < (N : Int) := by omega
      go_wp2_with fail
      go_ret
      exact ⟨rfl, HB.out.trans ((below_drewN W m).mono HB.out.size)⟩

/-- The reply that is left: ten rows of forty bytes. -/
def cutR (ts : List (List UInt8)) : List (List UInt8) := (ts.take 10).map fun t => t.take 40
theorem isR_takeT {w : World} {ao : Option Addr} {l c : Nat} {ns : List (List UInt8)} (h : IsR w (.slice ao l c) (cT ns)) (k : Nat) (hk : k ≤ l) : IsR w (.slice ao k c) (cT (ns.take k)) := by
  obtain ⟨ao', c', e, h1, h2, h4⟩ := h
  simp only [Value.slice.injEq] at e
  obtain ⟨rfl, rfl, rfl⟩ := e
  rw [cT_len] at h1 h4 hk
  have hl : (cT (ns.take k)).length = k := by rw [cT_len, List.length_take]; omega
  refine ⟨ao, c, by rw [hl], by omega, h2, fun hp => ?_⟩
  rw [hl] at hp
  obtain ⟨g, off, ha, hc⟩ := h4 (by omega)
  refine ⟨g, off, ha, fun j u hj => hc j u ?_⟩
  have e : cT (ns.take k) = (cT ns).take k := by simp [cT, List.map_take]
  rw [e, List.getElem?_take] at hj
  split at hj
  · exact hj
  · simp at hj

set_option maxRecDepth 4000 in
set_option maxHeartbeats 4000000 in
theorem cutReply_any {w : World} (r : Rp) {ar : Option Addr} {lr cr : Nat} (h : RpV w ar lr cr r) (hl : ∀ t ∈ r.rows, t.length ≤ 9223372036854775807) :
    Calls Try.prog 18 #[.agg #[.int .i64 r.err, .bool r.ch, .slice ar lr cr]] w fun e w' => ∃ ao L cap, e = .returned (.agg #[.int .i64 r.err, .bool r.ch, .slice ao L cap]) ∧ Hid (w'.ownsRow w.heap.size 9 1 (.slice ao L cap) (cutR r.rows).length (cT (cutR r.rows)) ∧ Below w.heap.size w w') := by
  obtain ⟨W, hW⟩ : ∃ W, Hid (W = (w.alloc (.cells #[.int .i64 r.err, .bool r.ch, .slice ar lr cr] 44)).alloc (.cells #[.int .i64 0, .bool false, .slice none 0 0] 44)) := ⟨_, (rfl : _ = _)⟩
  have HB : Hid (Below w.heap.size w W) := by rw [hW.out]; exact ((Below.refl _ w).alloc (Nat.le_refl _) _).alloc (by simp) _
  have h1 : W.heap[w.heap.size]? = some (.cells #[.int .i64 r.err, .bool r.ch, .slice ar lr cr] 44 (0, 0)) := by
    rw [hW.out]
    exact (((Below.refl _ _).alloc (Nat.le_refl _) _).block w.heap.size (by simp)).trans (heap_alloc_new _ _)
  have h2 : W.heap[w.heap.size + 1]? = some (.cells #[.int .i64 0, .bool false, .slice none 0 0] 44 (0, 0)) := by rw [hW.out]; exact heap_alloc2_new _ _ _
  obtain ⟨x0, x1, x2⟩ := cells_Rep h1
  have fx := fun i => frozen_of_row W _ i _ _ h1
  have H1 := hide h1
  have H2 := hide h2
  obtain ⟨el, l1, l2⟩ := isR_caps h.rows
  rw [cT_len] at el
  have EL := hide el
  have HR := hide h.rows
  have HLT := hide hl
  have l2' : cr ≤ 9223372036854775807 := l2
  clear h1 h2 h hl el l2
  go_enter Try.func18, Try.ntmps18
  go_upto_region 1 with fail
  rw [← hW.out]
  go_upto_if 8 with fail
  go_cut [] from 8 to 13 (fun wc => ∃ nr, wc.heap[w.heap.size]? = some (.cells #[.int .i64 r.err, .bool r.ch, .slice ar nr cr] 44 (0, 0)) ∧ wc.heap[w.heap.size + 1]? = some (.cells #[.int .i64 0, .bool false, .slice none 0 0] 44 (0, 0)) ∧ Hid (Below w.heap.size w wc) ∧ Hid (IsR w (.slice ar nr cr) (cT (r.rows.take 10))))
  case first =>
    by_cases hl : 10 < lr
    · have hlI : (10 : Int) < (lr : Int) := by omega
      have hcI : (10 : Int) ≤ (cr : Int) := by omega
      have hq : Hid ((W.setCell ⟨w.heap.size, 2, none⟩ (.slice ar 10 cr)).heap[w.heap.size]? = some (.cells #[.int .i64 r.err, .bool r.ch, .slice ar 10 cr] 44 (0, 0)) ∧ (W.setCell ⟨w.heap.size, 2, none⟩ (.slice ar 10 cr)).heap[w.heap.size + 1]? = some (.cells #[.int .i64 0, .bool false, .slice none 0 0] 44 (0, 0)) ∧ Hid (Below w.heap.size w (W.setCell ⟨w.heap.size, 2, none⟩ (.slice ar 10 cr))) ∧ Hid (IsR w (.slice ar 10 cr) (cT (r.rows.take 10)))) :=
        ⟨heap_setCell_same W _ 2 _ 44 _ H1.out, (Below.heap_setCell _ _ _ _ (show w.heap.size + 1 ≠ w.heap.size by omega)).trans H2.out, HB.out.setCell (p := ⟨w.heap.size, 2, none⟩) (Nat.le_refl _) _, isR_takeT HR.out 10 (by omega)⟩
      clear hl
      go_wp2_with fail
      go_meet
      exact ⟨10, hq.out⟩
    · have hlI : ¬ (10 : Int) < (lr : Int) := by omega
      have hq : Hid (IsR w (.slice ar lr cr) (cT (r.rows.take 10))) := by
        have h9 := EL.out
        rw [List.take_of_length_le (by omega)]
        exact HR.out
      clear hl
      go_wp2_with fail
      go_meet
      exact ⟨lr, H1.out, H2.out, HB, hq⟩
  case rest =>
    obtain ⟨nr, h1, h2, HB1, HN⟩ := hcut
    clear x0 x1 x2 fx H1 H2
    obtain ⟨w1, hw1⟩ : ∃ x, x = wc := ⟨_, rfl⟩
    subst hw1
    obtain ⟨x0, x1, x2⟩ := cells_Rep h1
    have H1 := hide h1
    have H2 := hide h2
    obtain ⟨ts, hts⟩ : ∃ ts, Hid (r.rows.take 10 = ts) := ⟨_, (rfl : _ = _)⟩
    rw [hts.out] at HN
    obtain ⟨en, n1, n2⟩ := isR_caps HN.out
    rw [cT_len] at en
    have EN := hide en
    have n2' : cr ≤ 9223372036854775807 := n2
    have hn10 : nr ≤ 10 := by
      have h9 := EN.out
      have h8 : ts.length ≤ 10 := by rw [← hts.out]; simp only [List.length_take]; omega
      omega
    have HLT2 : Hid (∀ t ∈ ts, t.length ≤ 9223372036854775807) := fun t ht => HLT.out t (by rw [← hts.out] at ht; exact List.mem_of_mem_take ht)
    have HCU : Hid (cutR r.rows = ts.map fun t => t.take 40) := by show _ = _; rw [cutR, hts.out]
    obtain ⟨_, _, ee, -, -, hrow⟩ := HN.out
    simp only [Value.slice.injEq] at ee
    obtain ⟨rfl, -, rfl⟩ := ee
    rw [cT_len] at hrow
    have HROW := hide hrow
    clear h1 h2 en n2 hrow
    go_wp2_with fail
    go_loopw [3, 4] (fun lv i wr => ∃ k : Nat, k ≤ nr ∧ i = .int .i64 k ∧ Hid (wr.ownsRow (w.heap.size + 2) 9 1 lv k (cT ((ts.take k).map fun t => t.take 40)) ∧ Below (w.heap.size + 2) w1 wr)) (fun _ i _ => nr - (intOf i).toNat)
    case atStart => exact ⟨0, Nat.zero_le _, rfl, World.ownsRow_nil _ _ _ _, Below.refl _ _⟩
    case round =>
      obtain ⟨k, hk, rfl, HO⟩ := hrel
      have hb1 := (HO.out.2.block w.heap.size (by omega)).trans H1.out
      obtain ⟨q0, q1, q2⟩ := cells_Rep hb1
      have fq := fun i => frozen_of_row wr _ i _ _ hb1
      have HQ1 := hide hb1
      have HQ2 := hide ((HO.out.2.block (w.heap.size + 1) (by omega)).trans H2.out)
      clear hb1
      obtain ⟨ao, L, cap, rfl⟩ := Kp.own_slice HO.out.1
      have hL : L = k := by
        rcases Kp.own_shape HO.out.1 with ⟨e, h0⟩ | ⟨g, c, e, _⟩
        · simp only [Value.slice.injEq] at e; omega
        · simp only [Value.slice.injEq] at e; exact e.2.1
      subst hL
      have hs1 : w.heap.size + 2 ≤ w1.heap.size := by have := lt_of_block H2.out; omega
      have hsz := HO.out.2.size
      by_cases hx : L < nr
      · obtain ⟨g, off, rfl, hc⟩ := HROW.out (by have := EN.out; omega)
        obtain ⟨t, ht⟩ : ∃ e, ts[L]? = some e := ⟨_, List.getElem?_eq_getElem (by have := EN.out; omega)⟩
        have hct := hc L _ (cT_at ts L t ht)
        have hgw := cell_lt hct
        have ck : wr.cell? ⟨g, off + L, none⟩ = some (tx t) := ((World.cell?_of_block (w := w1) (a := ⟨g, off + L, none⟩) (HO.out.2.block g (by omega))).trans (World.cell?_of_block (w := w) (a := ⟨g, off + L, none⟩) (HB1.out.block g hgw))).trans hct
        have HCS := hide (cutS t wr (HLT2.out t (List.mem_of_getElem? ht)))
        have hpp := push_row 42 9 1 16 (.string ⟨#[]⟩) Try.underlying42 Try.inf9 rfl (by decide) (by decide) HO.out.1 [tx (t.take 40)] rfl (by intro u hu; rw [List.mem_singleton.1 hu]; rfl) (by omega) (Nat.le_trans hs1 hsz)
        obtain ⟨g6, cap6, w6, hr, HO6, HG6⟩ := hpp
        have hb6 := hide (HO.out.2.trans (grown_below_row HG6.out HO.out.1 (Nat.le_trans hs1 hsz)))
        have HT := hide ht
        clear hc hct hgw ht
        go_wp2_with fail
        refine Calls.mono HCS.out ?_
        rintro e w5 ⟨rfl, hw5⟩
        have hw5' := hw5.symm
        subst hw5'
        clear hw5
        go_wp2_with (at_builtin; refine wpList_append_run _ rfl (.tmp 20) (.tmp 27) 42 42 rfl _ _ rfl rfl (hr _) ?_)
        go_roundw
        case rel =>
          refine ⟨L + 1, by omega, rfl, ?_, hb6.out⟩
          have e : cT ((ts.take (L + 1)).map fun t => t.take 40) = cT ((ts.take L).map fun t => t.take 40) ++ [tx (t.take 40)] := by
            rw [List.take_add_one, HT.out]
            simp [cT]
          rw [e]
          exact HO6.out
        case measure => simp [intOf]; omega
      · have hlt' : ¬ (L : Int) < (nr : Int) := by omega
        have hbox := fun v => (Below.heap_setCell wr ⟨w.heap.size, 2, none⟩ v (w.heap.size + 1) (show w.heap.size + 1 ≠ w.heap.size by omega)).trans HQ2.out
        have HBX := hide hbox
        obtain ⟨z0, z1, z2⟩ := cells_Rep HQ2.out
        have zz := fun i => frozen_of_row wr _ i _ _ HQ2.out
        clear hbox
        go_wp2_with fail
        refine bodyPost_ret (results_cell_row rfl _ _ (w.heap.size + 1) 44 _ (0, 0) _ rfl (set_Rep (b := w.heap.size) _ _ _ (HBX.out _) (by omega)).1 Try.underlying44 rfl sz_Rep) rfl ?_
        have hk : ∀ (v y0 y1 y2 : Value) (k : Nat), w.heap.size + 2 ≤ k → ((((wr.setCell ⟨w.heap.size, 2, none⟩ v).setCell ⟨w.heap.size + 1, 0, none⟩ y0).setCell ⟨w.heap.size + 1, 1, none⟩ y1).setCell ⟨w.heap.size + 1, 2, none⟩ y2).heap[k]? = wr.heap[k]? := fun v y0 y1 y2 k hk => by
          rw [Below.heap_setCell _ _ _ _ (show k ≠ w.heap.size + 1 by omega), Below.heap_setCell _ _ _ _ (show k ≠ w.heap.size + 1 by omega), Below.heap_setCell _ _ _ _ (show k ≠ w.heap.size + 1 by omega), Below.heap_setCell _ _ _ _ (show k ≠ w.heap.size by omega)]
        refine ⟨ao, L, cap, rfl, ?_, ?_⟩
        · rw [HCU.out]
          have h1 := HO.out.1
          have hLt : L = ts.length := by have := EN.out; omega
          rw [List.take_of_length_le (by omega)] at h1
          have hlen : (ts.map fun t => t.take 40).length = L := by simp [hLt]
          rw [hlen]
          refine own_low (b := w.heap.size + 2) ⟨h1.1, ?_⟩ (by omega)
          rcases h1.2 with h9 | ⟨g', cap', cur, e1, hb', hgg, rest⟩
          · exact .inl h9
          · exact .inr ⟨g', cap', cur, e1, hb', (hk _ _ _ _ g' hb').trans hgg, rest⟩
        · have hB := HB1.out.trans (HO.out.2.mono (show w.heap.size ≤ w.heap.size + 2 by omega))
          exact (((hB.setCell (p := ⟨w.heap.size, 2, none⟩) (Nat.le_refl _) _).setCell (p := ⟨w.heap.size + 1, 0, none⟩) (by show _ ≤ w.heap.size + 1; omega) _).setCell (p := ⟨w.heap.size + 1, 1, none⟩) (by show _ ≤ w.heap.size + 1; omega) _).setCell (p := ⟨w.heap.size + 1, 2, none⟩) (by show _ ≤ w.heap.size + 1; omega) _

end Go.Proofs.Ytgknpbgepgmmmaa.Cm
namespace Go.Proofs.Ytgknpbgepgmmmaa.Cm
open Go.RowKit Bn Kp

theorem cutR_ok (ts : List (List UInt8)) : (cutR ts).length ≤ 10 ∧ ∀ t ∈ cutR ts, t.length ≤ 40 := by
  refine ⟨by simp only [cutR, List.length_map, List.length_take]; omega, fun t ht => ?_⟩
  simp only [cutR, List.mem_map] at ht
  obtain ⟨x, _, rfl⟩ := ht
  simp only [List.length_take]; omega
theorem flat_bound (ts : List (List UInt8)) (h : ∀ t ∈ ts, t.length ≤ 40) : (ts.flatMap encT).length ≤ 50 * ts.length := by
  induction ts with
  | nil => simp
  | cons a l ih =>
    have h1 := h a (by simp)
    have h2 := enc_le a.length
    have h3 := ih (fun t ht => h t (by simp [ht]))
    simp only [List.flatMap_cons, List.length_append, encT, List.length_cons]
    omega

theorem readRp_yes {w : World} {v : Value} {bs : List UInt8} (hS : Sl w v bs) (hl : bs.length ≤ 900000) {r : Rp} (h : rRp (some bs) = ((r, some []), false)) :
    Calls Try.prog 20 #[v] w fun e w' => ∃ ar lr cr, e = .returned (.tuple #[.agg #[.int .i64 r.err, .bool r.ch, .slice ar lr cr], .int .i64 0]) ∧ Hid (RpV w' ar lr cr r ∧ Below w.heap.size w w') := by
  have H := readRp_ok hS hl (by rw [h]; rfl)
  rw [h] at H
  exact H

set_option maxRecDepth 4000 in
set_option maxHeartbeats 8000000 in
theorem reply_out {w : World} (r : Rp) {ac : Option Addr} {lc cc : Nat} (hr : RpV w ac lc cc r) (hl : ∀ t ∈ r.rows, t.length ≤ 9223372036854775807) (at_ x : Int) (he : r.err < 0 ∨ (¬ r.err < 0 ∧ 14 < r.err)) :
    Calls Try.prog 4 #[.agg #[.int .i64 r.err, .bool r.ch, .slice ac lc cc], .int .i64 at_, .int .u8 x] w fun e w' => e = .returned (.bool true) ∧ Below w.heap.size w w' := by
  obtain ⟨W0, hW⟩ : ∃ W, Hid (W = w.alloc (.cells #[.int .i64 r.err, .bool r.ch, .slice ac lc cc] 44)) := ⟨_, (rfl : _ = _)⟩
  have HB0 : Hid (Below w.heap.size w W0) := by rw [hW.out]; exact (Below.refl _ w).alloc (Nat.le_refl _) _
  have HX : Hid (W0.heap[w.heap.size]? = some (.cells #[.int .i64 r.err, .bool r.ch, .slice ac lc cc] 44 (0, 0))) := by rw [hW.out]; exact heap_alloc_new _ _
  have HG := hide (begun_any W0)
  have HC : Hid (∀ W, Below w.heap.size w W → Calls Try.prog 18 #[.agg #[.int .i64 r.err, .bool r.ch, .slice ac lc cc]] W fun e w' => ∃ ao L cap, e = .returned (.agg #[.int .i64 r.err, .bool r.ch, .slice ao L cap]) ∧ Hid (w'.ownsRow W.heap.size 9 1 (.slice ao L cap) (cutR r.rows).length (cT (cutR r.rows)) ∧ Below W.heap.size W w')) := fun W hW => cutReply_any r (hr.below hW) hl
  clear hr hl
  rcases he with h | ⟨h, h'⟩
  all_goals
    go_enter Try.func4, Try.ntmps4
    go_upto_region 1 with fail
    rw [← hW.out]
    go_wp2_with fail
    refine Calls.mono HG.out ?_
    rintro e w1 ⟨rfl, HB1⟩
    have hx1 := (HB1.out.block _ (lt_of_block HX.out)).trans HX.out
    have hb1 := HB0.out.trans (HB1.out.mono HB0.out.size)
    obtain ⟨a0, a1, a2⟩ := cells_Rep hx1
    have HC1 := hide (HC.out w1 hb1)
    have HX1 := hide hx1
    have HBW := hide hb1
    clear hx1 hb1
    go_wp2_with fail
    refine Calls.mono HC1.out ?_
    rintro e w3 ⟨ar, lr, cr, rfl, HP3⟩
    have hx3 := (HP3.out.2.block _ (lt_of_block HX1.out)).trans HX1.out
    obtain ⟨c0, c1, c2⟩ := cells_Rep hx3
    have fc := fun i => frozen_of_row w3 _ i _ _ hx3
    have HBE := hide ((set_Rep (b := w.heap.size) (.int .i64 r.err) (.bool r.ch) (.slice ar lr cr) hx3 (Nat.le_refl _)).2)
    have HB3 := hide (HBW.out.trans (HP3.out.2.mono HBW.out.size))
    clear hx3 a0 a1 a2
    go_wp2_with fail
    go_ret
    exact ⟨rfl, HB3.out.trans HBE.out⟩

abbrev S3 (P : Nat) (c0 c1 c2 va : Value) (Xa : ByteArray) (u : World) : Prop :=
  u.cell? ⟨P, 0, none⟩ = some c0 ∧ u.cell? ⟨P, 1, none⟩ = some c1 ∧ u.cell? ⟨P, 2, none⟩ = some c2 ∧ (convert 24 9 va).run Try.prog u = .ok (.string Xa) u
set_option maxRecDepth 4000 in
set_option maxHeartbeats 8000000 in
theorem reply_law {w : World} (r : Rp) {ac : Option Addr} {lc cc : Nat} (hr : RpV w ac lc cc r) (hl : ∀ t ∈ r.rows, t.length ≤ 9223372036854775807) (at_ x : Int) (hx : 0 ≤ x ∧ x ≤ 255) (he0 : 0 ≤ r.err) (he1 : r.err ≤ 14) :
    Calls Try.prog 4 #[.agg #[.int .i64 r.err, .bool r.ch, .slice ac lc cc], .int .i64 at_, .int .u8 x] w fun e w' => e = .returned (.bool true) ∧ Below w.heap.size w w' := by
  obtain ⟨W0, hW⟩ : ∃ W, Hid (W = w.alloc (.cells #[.int .i64 r.err, .bool r.ch, .slice ac lc cc] 44)) := ⟨_, (rfl : _ = _)⟩
  have HB0 : Hid (Below w.heap.size w W0) := by rw [hW.out]; exact (Below.refl _ w).alloc (Nat.le_refl _) _
  have HX : Hid (W0.heap[w.heap.size]? = some (.cells #[.int .i64 r.err, .bool r.ch, .slice ac lc cc] 44 (0, 0))) := by rw [hW.out]; exact heap_alloc_new _ _
  have HG := hide (begun_any W0)
  have HC : Hid (∀ W, Below w.heap.size w W → Calls Try.prog 18 #[.agg #[.int .i64 r.err, .bool r.ch, .slice ac lc cc]] W fun e w' => ∃ ao L cap, e = .returned (.agg #[.int .i64 r.err, .bool r.ch, .slice ao L cap]) ∧ Hid (w'.ownsRow W.heap.size 9 1 (.slice ao L cap) (cutR r.rows).length (cT (cutR r.rows)) ∧ Below W.heap.size W w')) := fun W hW => cutReply_any r (hr.below hW) hl
  obtain ⟨r1, hr1⟩ : ∃ r1 : Rp, Hid (r1 = ⟨r.err, r.ch, cutR r.rows⟩) := ⟨_, (rfl : _ = _)⟩
  have hi1 : r.err = r1.err := by rw [hr1.out]
  have hi2 : r.ch = r1.ch := by rw [hr1.out]
  have hi3 : cutR r.rows = r1.rows := by rw [hr1.out]
  have hck := cutR_ok r.rows
  rw [hi3] at HC hck
  rw [hi1, hi2] at HC HX hW ⊢
  rw [hi1] at he0 he1
  have HO1 : Hid (r1.Ok ∧ r1.rows.length ≤ 10 ∧ (∀ t ∈ r1.rows, t.length ≤ 40) ∧ (r1.rows.flatMap encT).length ≤ 500) := ⟨⟨⟨he0, he1⟩, by omega, fun t ht => by have := hck.2 t ht; omega⟩, hck.1, hck.2, by have := flat_bound r1.rows hck.2; omega⟩
  have HI : Hid (I64 r1.err) := ⟨by omega, by omega⟩
  clear hr hl hi1 hi2 hi3 hck hr1
  have hn0 : ¬ r1.err < 0 := by omega
  have hn1 : ¬ (14 : Int) < r1.err := by omega
  clear he0 he1
  go_enter Try.func4, Try.ntmps4
  go_upto_region 1 with fail
  rw [← hW.out]
  go_wp2_with fail
  refine Calls.mono HG.out ?_
  rintro e w1 ⟨rfl, HB1⟩
  have hx1 := (HB1.out.block _ (lt_of_block HX.out)).trans HX.out
  have hb1 := HB0.out.trans (HB1.out.mono HB0.out.size)
  obtain ⟨a0, a1, a2⟩ := cells_Rep hx1
  have HC1 := hide (HC.out w1 hb1)
  have HX1 := hide hx1
  have HBW := hide hb1
  clear hx1 hb1 HG HC HB1
  go_wp2_with fail
  refine Calls.mono HC1.out ?_
  rintro e w3 ⟨ar, lr, cr, rfl, HP3⟩
  have hx3 := (HP3.out.2.block _ (lt_of_block HX1.out)).trans HX1.out
  obtain ⟨c0, c1, c2⟩ := cells_Rep hx3
  have fc := fun i => frozen_of_row w3 _ i _ _ hx3
  have hset := set_Rep (b := w.heap.size) (.int .i64 r1.err) (.bool r1.ch) (.slice ar lr cr) hx3 (Nat.le_refl _)
  have hkk : ∀ k, k ≠ w.heap.size → (((w3.setCell ⟨w.heap.size, 0, none⟩ (.int .i64 r1.err)).setCell ⟨w.heap.size, 1, none⟩ (.bool r1.ch)).setCell ⟨w.heap.size, 2, none⟩ (.slice ar lr cr)).heap[k]? = w3.heap[k]? := fun k hk => by
    rw [Below.heap_setCell _ _ _ _ hk, Below.heap_setCell _ _ _ _ hk, Below.heap_setCell _ _ _ _ hk]
  have hrow4 := own_off HP3.out.1 hx3 (by decide) hkk
  obtain ⟨w4, hw4⟩ : ∃ x, Hid (x = ((w3.setCell ⟨w.heap.size, 0, none⟩ (.int .i64 r1.err)).setCell ⟨w.heap.size, 1, none⟩ (.bool r1.ch)).setCell ⟨w.heap.size, 2, none⟩ (.slice ar lr cr)) := ⟨_, (rfl : _ = _)⟩
  rw [← hw4.out] at hset hrow4
  have HS4 := hide hset.1
  have HB4 := hide ((HBW.out.trans (HP3.out.2.mono HBW.out.size)).trans hset.2)
  have HV4 : Hid (RpV w4 ar lr cr r1) := ⟨IsR.of_own hrow4⟩
  clear hx3 a0 a1 a2 hset hrow4 hkk HC1 HX1 HBW HP3
  go_upto_region 5 with fail
  rw [← hw4.out]
  clear c0 c1 c2 fc
  obtain ⟨c0, c1, c2⟩ := cells_Rep HS4.out
  have HRP := hide (rp_enc r1 HV4.out HI.out (by have := HO1.out.2.2.2; omega))
  go_wp2_with fail
  refine Calls.mono HRP.out ?_
  rintro e w5 ⟨ab, lb, cb, rfl, HP5⟩
  have HS5 := hide ((HP5.out.2.block _ (lt_of_block HS4.out)).trans HS4.out)
  have HB5 := hide (HB4.out.trans (HP5.out.2.mono HB4.out.size))
  have HV5 := hide (HV4.out.below HP5.out.2)
  have HSB : Hid (Sl w5 (.slice ab lb cb) (encRp r1)) := Sl.of_own HP5.out.1
  clear HRP HP5 c0 c1 c2 HS4 HB4 HV4 hw4
  obtain ⟨c0, c1, c2⟩ := cells_Rep HS5.out
  have HNM := hide (refnum_any r1.err w5 HI.out.1 HI.out.2)
  go_wp2_with fail
  refine Calls.mono HNM.out ?_
  rintro e w6 ⟨v6, rfl, ho6, hb6⟩
  obtain ⟨aw, lw, cw, rfl⟩ := Kp.own_slice ho6
  have HO6 := hide ho6
  have HB6 := hide hb6
  have hx6 := (hb6.block _ (lt_of_block HS5.out)).trans HS5.out
  clear HNM ho6 hb6 c0 c1 c2
  obtain ⟨c0, c1, c2⟩ := cells_Rep hx6
  clear hx6
  obtain ⟨ch, hch⟩ : ∃ c, Hid (r1.ch = c) := ⟨_, (rfl : _ = _)⟩
  have c1b : w6.cell? ⟨w.heap.size, 1, none⟩ = some (.bool ch) := by rw [← hch.out]; exact c1
  clear c1
  go_upto_if 34 with fail
  go_cut [9] from 34 to 41 (fun v wc => ∃ aw lw cw, v = .slice aw lw cw ∧ Hid (wc.ownsRow w5.heap.size 5 1 (.slice aw lw cw) (enc r1.err ++ fl r1.ch).length (cells8 (enc r1.err ++ fl r1.ch)) ∧ Below w5.heap.size w5 wc))
  case first =>
    have HPU := fun b : UInt8 => push_row 24 5 1 1 (.int .u8 0) Try.underlying24 Try.info5 rfl (by decide) (by decide) HO6.out [.int .u8 (b.toNat : Int)] rfl (by intro u hu; rw [List.mem_singleton.1 hu]; rfl) (by have := enc_le r1.err; omega) HB6.out.size
    cases ch
    · obtain ⟨g, cap, w7, hap, ho7, hg7⟩ := HPU 0
      have hfin : Hid (w7.ownsRow w5.heap.size 5 1 (.slice (some ⟨g, 0, none⟩) ((enc r1.err).length + 1) cap) (enc r1.err ++ fl r1.ch).length (cells8 (enc r1.err ++ fl r1.ch)) ∧ Below w5.heap.size w5 w7) := by
        refine ⟨?_, HB6.out.trans (grown_below_row hg7.out HO6.out HB6.out.size)⟩
        rw [hch.out, List.length_append, cells8_append]
        exact ho7.out
      clear HPU
      go_wp2_with (at_builtin; refine wpList_append_run _ rfl _ _ 24 24 rfl _ _ rfl rfl (hap _) ?_)
      go_meet
      exact ⟨_, _, _, rfl, hfin.out⟩
    · obtain ⟨g, cap, w7, hap, ho7, hg7⟩ := HPU 1
      have hfin : Hid (w7.ownsRow w5.heap.size 5 1 (.slice (some ⟨g, 0, none⟩) ((enc r1.err).length + 1) cap) (enc r1.err ++ fl r1.ch).length (cells8 (enc r1.err ++ fl r1.ch)) ∧ Below w5.heap.size w5 w7) := by
        refine ⟨?_, HB6.out.trans (grown_below_row hg7.out HO6.out HB6.out.size)⟩
        rw [hch.out, List.length_append, cells8_append]
        exact ho7.out
      clear HPU
      go_wp2_with (at_builtin; refine wpList_append_run _ rfl _ _ 24 24 rfl _ _ rfl rfl (hap _) ?_)
      go_meet
      exact ⟨_, _, _, rfl, hfin.out⟩
  case rest =>
    obtain ⟨aw, lw, cw, rfl, HQ⟩ := hcut
    clear HO6 HB6 c0 c1b c2 hch
    obtain ⟨w7, hw7⟩ : ∃ x, x = wc := ⟨_, rfl⟩
    subst hw7
    obtain ⟨el, l1, l2⟩ := isR_caps HV5.out.rows
    rw [cT_len] at el
    have hlr : lr ≤ 10 := by have := HO1.out.2.1; omega
    have EL := hide el
    have l2' : cr ≤ 9223372036854775807 := l2
    have hx7 := (HQ.out.2.block _ (lt_of_block HS5.out)).trans HS5.out
    obtain ⟨c0, c1, c2⟩ := cells_Rep hx7
    have HNM := hide (refnum_any (lr : Int) w7 (by omega) (by omega))
    have HB7 := hide HQ.out.2
    have HO7 := hide HQ.out.1
    obtain ⟨i, hi, hz0, hz1, hz2⟩ := info_parts Try.info5
    clear hx7 el l2 HQ
    go_wp2_with fail
    refine Calls.mono HNM.out ?_
    rintro e w8 ⟨v8, rfl, ho8, hb8⟩
    obtain ⟨a8, l8, c8, rfl⟩ := Kp.own_slice ho8
    have HO8 := hide (Sl.of_own ho8)
    have HO78 := hide (own_below HO7.out hb8)
    have HB8 := hide (HB7.out.trans (hb8.mono HB7.out.size))
    clear HNM ho8 hb8 c0 c1 c2 HO7 HB7
    go_upto_region 13 with (at_builtin; refine wpList_append_sl _ rfl (.tmp 41) (.tmp 45) 24 rfl w5.heap.size i Try.underlying24 hi hz0 hz1 hz2 _ _ _ _ rfl HO78.out rfl HO8.out (by have h1 := enc_le r1.err; have h2 := enc_le (lr : Int); simp only [List.length_append, fl, List.length_cons, List.length_nil]; omega) HB8.out.size ?_)
    intro v9 w9 hown hgrow hat9
    obtain ⟨a9, l9, c9, rfl⟩ := Kp.own_slice hown
    have HO9 : Hid (w9.ownsRow w5.heap.size 5 1 (.slice a9 l9 c9) (enc r1.err ++ fl r1.ch ++ enc (lr : Int)).length (cells8 (enc r1.err ++ fl r1.ch ++ enc (lr : Int)))) := by show World.ownsRow _ _ _ _ _ _ _; simpa using hown
    have HB9 := hide (HB8.out.trans (grown_below_row hgrow HO78.out HB8.out.size))
    clear hown hgrow hat9 HO8 HO78 HB8
    obtain ⟨pre, hpre⟩ : ∃ pre, Hid (enc r1.err ++ fl r1.ch ++ enc (lr : Int) = pre) := ⟨_, (rfl : _ = _)⟩
    have HPL : Hid (pre.length ≤ 40) := by
      have h1 := enc_le r1.err
      have h2 := enc_le (lr : Int)
      show _ ≤ _
      rw [← hpre.out]
      simp only [List.length_append, fl, List.length_cons, List.length_nil]; omega
    rw [hpre.out] at HO9
    go_wp2_with fail
    go_loopw [9, 10] (fun v i wr => ∃ (k : Nat) (a : Option Addr) (l c : Nat), k ≤ lr ∧ i = .int .i64 k ∧ v = .slice a l c ∧ Hid (wr.ownsRow w5.heap.size 5 1 (.slice a l c) (pre ++ (r1.rows.take k).flatMap encT).length (cells8 (pre ++ (r1.rows.take k).flatMap encT)) ∧ Below w5.heap.size w5 wr)) (fun _ i _ => lr - (intOf i).toNat)
    case atStart => exact ⟨0, a9, l9, c9, Nat.zero_le _, rfl, rfl, by rw [List.take_zero, List.flatMap_nil, List.append_nil]; exact HO9.out, HB9.out⟩
    case round =>
      obtain ⟨k, a, l, c, hk, rfl, rfl, HO⟩ := hrel
      clear HO9 HB9
      have hxr := (HO.out.2.block _ (lt_of_block HS5.out)).trans HS5.out
      obtain ⟨c0, c1, c2⟩ := cells_Rep hxr
      have HXR := hide hxr
      clear hxr
      by_cases hlt : k < lr
      · obtain ⟨_, _, ee, -, -, hrow⟩ := HV5.out.rows
        simp only [Value.slice.injEq] at ee
        obtain ⟨rfl, -, rfl⟩ := ee
        rw [cT_len] at hrow
        obtain ⟨g, off, rfl, hc⟩ := hrow (by have := EL.out; omega)
        obtain ⟨t, ht⟩ : ∃ e, r1.rows[k]? = some e := ⟨_, List.getElem?_eq_getElem (by have := EL.out; omega)⟩
        have hct := hc k _ (cT_at r1.rows k t ht)
        have ck : wr.cell? ⟨g, off + k, none⟩ = some (tx t) := (World.cell?_of_block (w := w5) (a := ⟨g, off + k, none⟩) (HO.out.2.block g (cell_lt hct))).trans hct
        have HTL : Hid (t.length ≤ 40) := HO1.out.2.2.1 t (List.mem_of_getElem? ht)
        obtain ⟨cap, wx, hr, HSX⟩ := conv_sl wr t (by have := HTL.out; omega)
        have HTX := hide (reftext_any _ t wx HSX.out.1 (by have := HTL.out; omega))
        have HT := hide ht
        have HBX := hide (HO.out.2.trans (HSX.out.2.mono HO.out.2.size))
        have HOX := hide (own_below HO.out.1 HSX.out.2)
        have HLB : Hid (((r1.rows.take k).flatMap encT).length + (encT t).length ≤ 500) := by
          have h1 := flat_cut encT r1.rows k t ht
          have h2 := HO1.out.2.2.2
          show _ ≤ _
          omega
        clear hc hct hrow ht
        go_wp2_with fail
        refine Calls.mono HTX.out ?_
        rintro e wy ⟨vy, rfl, hoy, hby⟩
        obtain ⟨ay, ly, cy, rfl⟩ := Kp.own_slice hoy
        have HSY : Hid (Sl wy (.slice ay ly cy) (encT t)) := Sl.of_own hoy
        have HOY := hide (own_below HOX.out hby)
        have HBY := hide (HBX.out.trans (hby.mono HBX.out.size))
        clear HTX hoy hby hr HOX HBX HSX
        obtain ⟨old, hold⟩ : ∃ o, Hid (pre ++ (r1.rows.take k).flatMap encT = o) := ⟨_, (rfl : _ = _)⟩
        obtain ⟨new, hnew⟩ : ∃ o, Hid (encT t = o) := ⟨_, (rfl : _ = _)⟩
        have HOL : Hid (old.length + new.length ≤ 10000) := by
          have h1 := HPL.out
          have h2 := HLB.out
          show _ ≤ _
          rw [← hold.out, ← hnew.out, List.length_append]
          omega
        rw [hold.out] at HOY
        rw [hnew.out] at HSY
        go_wp2_with (at_builtin; refine wpList_append_sl _ rfl (.tmp 54) (.tmp 61) 24 rfl w5.heap.size i Try.underlying24 hi hz0 hz1 hz2 _ _ _ _ rfl HOY.out rfl HSY.out (by have := HOL.out; omega) HBY.out.size ?_)
        intro v10 w10 hown hgrow hat10
        obtain ⟨a10, l10, c10, rfl⟩ := Kp.own_slice hown
        have HO10 : Hid (w10.ownsRow w5.heap.size 5 1 (.slice a10 l10 c10) (old ++ new).length (cells8 (old ++ new))) := by show World.ownsRow _ _ _ _ _ _ _; simpa using hown
        have HB10 := hide (HBY.out.trans (grown_below_row hgrow HOY.out HBY.out.size))
        clear hown hgrow hat10
        go_wp2_with fail
        go_roundw
        case rel =>
          refine ⟨k + 1, a10, l10, c10, by omega, rfl, rfl, ?_, HB10.out⟩
          rw [flat_take encT r1.rows k t HT.out, ← List.append_assoc, hold.out, hnew.out]
          exact HO10.out
        case measure => simp [intOf]; omega
      · have hlt' : ¬ (k : Int) < (lr : Int) := by omega
        have HOW : Hid (wr.ownsRow w5.heap.size 5 1 (.slice a l c) (encRp r1).length (cells8 (encRp r1))) := by
          have h1 := HO.out.1
          have h2 := EL.out
          rw [List.take_of_length_le (by omega), ← hpre.out, h2] at h1
          have e : enc r1.err ++ fl r1.ch ++ enc (r1.rows.length : Int) ++ r1.rows.flatMap encT = encRp r1 := by simp [encRp]
          rw [e] at h1
          exact h1
        have HBR := hide HO.out.2
        have HSB2 := hide (HSB.out.below (w' := wr) ⟨HO.out.2.os, HO.out.2.tape, HO.out.2.output, HO.out.2.size, HO.out.2.block⟩)
        have HL1 : Hid ((encRp r1).length ≤ 900000) := by
          have h1 := enc_le r1.err
          have h2 := enc_le r1.rows.length
          have h3 := HO1.out.2.2.2
          show _ ≤ _
          simp only [encRp, List.length_append, fl, List.length_cons, List.length_nil]
          omega
        have HL0 : Hid (0 < (encRp r1).length) := by
          have h1 := enc_pos r1.err
          show _ < _
          simp only [encRp, List.length_append]
          omega
        have HRR := hide (readRp_yes HSB2.out HL1.out (rRp_enc r1 HO1.out.1))
        clear HO HPL hpre
        go_wp2_with fail
        refine Calls.mono HRR.out ?_
        rintro e w11 ⟨sa, ls, cs, rfl, HP11⟩
        obtain ⟨w12, hw12⟩ : ∃ x, Hid (x = w11.alloc (.cells #[.int .i64 r1.err, .bool r1.ch, .slice sa ls cs] 44)) := ⟨_, (rfl : _ = _)⟩
        have HB12 : Hid (Below wr.heap.size wr w12) := by rw [hw12.out]; exact HP11.out.2.alloc HP11.out.2.size _
        have HK12 : Hid (w12.heap[w11.heap.size]? = some (.cells #[.int .i64 r1.err, .bool r1.ch, .slice sa ls cs] 44 (0, 0))) := by rw [hw12.out]; exact heap_alloc_new _ _
        have HV12 : Hid (RpV w12 sa ls cs r1) := by rw [hw12.out]; exact HP11.out.1.below ((Below.refl _ _).alloc (Nat.le_refl _) _)
        have hx12 := (HB12.out.block _ (lt_of_block HXR.out)).trans HXR.out
        have HW5 := hide ((HV5.out.below (HBR.out.mono (Nat.le_refl _))).below HB12.out)
        have HEQ := hide (eqRp_same r1 HW5.out HV12.out)
        obtain ⟨X, hX⟩ : ∃ X : ByteArray, Hid (⟨(encRp r1).toArray⟩ = X) := ⟨_, (rfl : _ = _)⟩
        have HSB12 := hide (HSB2.out.below HB12.out)
        have hcb := conv_sl_any HSB12.out hX.out
        have hcw := conv_sl_any ((Sl.of_own HOW.out).below HB12.out) hX.out
        have hnX := neq_self X
        clear HRR HP11 c0 c1 c2
        obtain ⟨d0, d1, d2⟩ := cells_Rep hx12
        obtain ⟨k0, k1, k2⟩ := cells_Rep HK12.out
        have HB12b := hide (HBR.out.trans (HB12.out.mono HBR.out.size))
        clear hx12
        go_upto_region 18 with fail
        rw [← hw12.out]
        obtain ⟨Q, hQ⟩ : ∃ P, Hid (w11.heap.size = P) := ⟨_, (rfl : _ = _)⟩
        rw [hQ.out] at k0 k1 k2 ⊢
        go_wp2_with fail
        refine Calls.mono HEQ.out ?_
        rintro e w13 ⟨rfl, HB13⟩
        clear hcb hcw d0 d1 d2 k0 k1 k2 HEQ
        have HQ13 : Hid (Below w.heap.size w w13 ∧ Sl w13 (.slice ab lb cb) (encRp r1)) := ⟨HB5.out.trans ((HB12b.out.mono HB5.out.size).trans (HB13.out.mono (Nat.le_trans HB5.out.size HB12b.out.size))), HSB12.out.below HB13.out⟩
        clear HB13 HSB12 HB12b HW5 HV12 HK12 HB12 HBR HSB2 HOW HXR
        obtain ⟨bs, hbs⟩ : ∃ bs, Hid (encRp r1 = bs) := ⟨_, (rfl : _ = _)⟩
        have hbl : 0 < bs.length ∧ bs.length ≤ 900000 := by rw [← hbs.out]; exact ⟨HL0.out, HL1.out⟩
        rw [hbs.out] at HQ13
        go_upto_region 21 with (at_builtin; refine wpList_append_sl _ rfl _ (.tmp 83) 24 rfl w13.heap.size i Try.underlying24 hi hz0 hz1 hz2 (.slice none 0 0) (.slice ab lb cb) [] bs rfl (World.ownsRow_nil _ _ _ _) rfl HQ13.out.2 (by simp; omega) (Nat.le_refl _) ?_)
        intro yv w14 hown hgrow hat14
        have hb14 : Below w13.heap.size w13 w14 := ⟨hgrow.os, hgrow.tape, hgrow.output, hgrow.size, fun k hk => hgrow.block k hk (by simp [Value.ownBlock])⟩
        have HB14 := hide (HQ13.out.1.trans (hb14.mono HQ13.out.1.size))
        have HO14 := hide (own_low hown HQ13.out.1.size)
        obtain ⟨g, cap, rfl, -, hcp, hgl⟩ : ∃ g cap, yv = .slice (some ⟨g, 0, none⟩) bs.length cap ∧ bs.length ≤ cap ∧ cap ≤ maxLen ∧ g < w14.heap.size := by
          rcases Kp.own_shape hown with ⟨_, h0⟩ | ⟨g, cap, h, h2, h3, h4⟩
          · omega
          · exact ⟨g, cap, h, h2, h3, h4⟩
        have hgw := own_ge HO14.out g rfl
        clear hown hgrow hat14 hb14 HQ13 hz0 hz1 hz2
        have HGW := hide hgw
        obtain ⟨N, hN⟩ : ∃ N, Hid (bs.length = N) := ⟨_, (rfl : _ = _)⟩
        rw [hN.out] at hbl HO14 ⊢
        have hN0 : (0 : Int) < (N : Int) := by omega
        have hN1 : (N : Int) ≤ 900000 := by omega
        go_upto_if 86 with fail
        go_cut [] from 86 to 97 (fun wc => ∃ ys : List UInt8, ys.length = N ∧ Hid (wc.ownsRow w.heap.size 5 1 (.slice (some ⟨g, 0, none⟩) N cap) ys.length (cells8 ys) ∧ Below w.heap.size w wc))
        case first =>
          by_cases ha : 0 ≤ at_
          · obtain ⟨k, hk, hkN⟩ : ∃ k : Nat, at_.tmod N = (k : Int) ∧ k < N := by
              rw [Int.tmod_eq_emod_of_nonneg ha]
              have h1 := Int.emod_nonneg at_ (show (N : Int) ≠ 0 by omega)
              have h2 := Int.emod_lt_of_pos at_ hN0
              exact ⟨(at_ % N).toNat, by omega, by omega⟩
            have hc := HO14.out.cellAt k (by omega)
            rw [cells8_at bs k (by rw [hN.out]; exact hkN)] at hc
            have hf := HO14.out.frozenAt k
            have hkI : (k : Int) < (N : Int) := by omega
            have hcI : (N : Int) ≤ 9223372036854775807 := by omega
            have hk0 : 0 ≤ at_.tmod N := by omega
            obtain ⟨y, hy⟩ := xor8 bs k x hx
            have HY := hide hy
            clear hy
            go_wp2_with fail
            go_meet
            rw [HY.out]
            have h9 := HO14.out
            rw [← hN.out] at h9
            refine ⟨bs.set k y, by rw [List.length_set]; exact hN.out, ?_, HB14.out.setCell (p := ⟨g, k, none⟩) HGW.out _⟩
            have h10 := own_put h9 (by rw [hN.out]; exact hkN) y
            rw [hN.out] at h10
            exact h10
          · have ha' : ¬ (0 : Int) ≤ at_ := ha
            go_wp2_with fail
            go_meet
            exact ⟨bs, hN.out, by rw [hN.out]; exact HO14.out, HB14.out⟩
        case rest =>
          obtain ⟨ys, hys, HO15⟩ := hcut
          have HYS := hide hys
          clear HO14 HB14 hys
          obtain ⟨w15, hw15⟩ : ∃ x, x = wc := ⟨_, rfl⟩
          subst hw15
          have HYL : Hid (ys.length ≤ 900000) := by show _ ≤ _; rw [HYS.out]; omega
          have HSY := hide (Sl.of_own HO15.out.1)
          have HB15 := hide HO15.out.2
          clear HO15 hbl
          cases hok : okB (rRp (some ys)).1.2 (rRp (some ys)).2
          · have HR := hide (readRp_no HSY.out HYL.out hok)
            clear hok
            go_wp2_with fail
            refine Calls.mono HR.out ?_
            rintro e w16 ⟨rfl, HB16⟩
            have HBe := hide ((HB15.out.trans (HB16.out.mono HB15.out.size)))
            clear HR
            go_wp2_with fail
            go_ret
            exact ⟨rfl, HBe.out.alloc HBe.out.size _⟩
          · have HR := hide (readRp_ok HSY.out HYL.out hok)
            have HZB := hide (rRp_back ys HYL.out hok)
            clear hok
            obtain ⟨z, hz⟩ : ∃ z, Hid ((rRp (some ys)).1.1 = z) := ⟨_, (rfl : _ = _)⟩
            rw [hz.out] at HR HZB
            go_wp2_with fail
            refine Calls.mono HR.out ?_
            rintro e w16 ⟨zr, zl, zc, rfl, HP16⟩
            clear HR
            obtain ⟨w17, hw17⟩ : ∃ x, Hid (x = w16.alloc (.cells #[.int .i64 z.err, .bool z.ch, .slice zr zl zc] 44)) := ⟨_, (rfl : _ = _)⟩
            have HB17 : Hid (Below w15.heap.size w15 w17) := by rw [hw17.out]; exact HP16.out.2.alloc HP16.out.2.size _
            have HK17 : Hid (w17.heap[w16.heap.size]? = some (.cells #[.int .i64 z.err, .bool z.ch, .slice zr zl zc] 44 (0, 0))) := by rw [hw17.out]; exact heap_alloc_new _ _
            have HV17 : Hid (RpV w17 zr zl zc z) := by rw [hw17.out]; exact HP16.out.1.below ((Below.refl _ _).alloc (Nat.le_refl _) _)
            obtain ⟨Y, hY⟩ : ∃ X : ByteArray, Hid (⟨ys.toArray⟩ = X) := ⟨_, (rfl : _ = _)⟩
            have HCY : Hid (∀ u, Below w17.heap.size w17 u → (convert 24 9 (.slice (some ⟨g, 0, none⟩) N cap)).run Try.prog u = .ok (.string Y) u) := fun u hu => conv_sl_any ((HSY.out.below HB17.out).below hu) hY.out
            have HRE : Hid (Calls Try.prog 19 #[.agg #[.int .i64 z.err, .bool z.ch, .slice zr zl zc]] w17.drew fun e w18 => ∃ ao L c, e = .returned (.slice ao L c) ∧ Hid ((convert 24 9 (.slice ao L c)).run Try.prog w18 = .ok (.string Y) w18 ∧ Below w17.heap.size w17 w18)) := by
              refine (rp_enc z (HV17.out.below (Below.refl _ _).drew) ⟨by have := HZB.out.2.1; omega, by have := HZB.out.2.2.1; omega⟩ (by have := HZB.out.2.2.2; omega)).mono ?_
              rintro e w18 ⟨ao, L, c, rfl, hp⟩
              have hown := hp.out.1
              rw [HZB.out.1] at hown
              exact ⟨ao, L, c, rfl, conv_sl_any (Sl.of_own hown) hY.out, (Below.refl _ _).drew.trans hp.out.2⟩
            have HBe := hide (HB15.out.trans (HB17.out.mono HB15.out.size))
            have hyy : (Y.toList == Y.toList) = true := by simp
            clear HP16 HV17 HZB HB17 HSY
            go_upto_region 26 with fail
            rw [← hw17.out]
            obtain ⟨Q, hQ⟩ : ∃ P, Hid (w16.heap.size = P) := ⟨_, (rfl : _ = _)⟩
            rw [hQ.out] at HK17 ⊢
            have HS17 : Hid (∀ u, Below w17.heap.size w17 u → S3 Q (.int .i64 z.err) (.bool z.ch) (.slice zr zl zc) (.slice (some ⟨g, 0, none⟩) N cap) Y u) := fun u hu => by
              obtain ⟨x0, x1, x2⟩ := cells_Rep ((hu.block _ (lt_of_block HK17.out)).trans HK17.out)
              exact ⟨x0, x1, x2, HCY.out u hu⟩
            have d0 := HS17.out w17 (Below.refl _ _)
            have d1 := HS17.out w17.drew (Below.refl _ _).drew
            clear HCY HK17
            refine wp_region_noPanic ?_
            go_region_held (fun u => S3 Q (.int .i64 z.err) (.bool z.ch) (.slice zr zl zc) (.slice (some ⟨g, 0, none⟩) N cap) Y u) (first | with_reducible exact d0 | with_reducible exact d1 | with_reducible exact d2)
              (first
                | (go_at_call 19; (with_reducible refine Calls.mono HRE.out ?_); rintro e w18 ⟨ao, L, c, rfl, HP18⟩; have hcv := HP18.out.1; have d2 := HS17.out w18 HP18.out.2))
            all_goals refine NoPanic.normal ?_
            all_goals go_wp2_with fail
            all_goals go_ret
            all_goals exact ⟨rfl, HBe.out.trans (HP18.out.2.mono HBe.out.size)⟩

end Go.Proofs.Ytgknpbgepgmmmaa.Cm
namespace Go.Proofs.Ytgknpbgepgmmmaa.Cm
open Go.ChangeShapes Go.WideShapes Go.ChangeAt Go.RowKit Go.Joins
open Bn Kp

/-- The bytes of a slice that is read. -/
theorem told8 {H : Type} {enc : TypeId × Value → H} {w : World} {fuel : Nat} {v : Value} {y : DataW H × List MemPlace} (h : DataW.trod enc Try.prog w 0 (fun _ => true) true fuel 24 [v] = some y) : ∃ ao l c bs, v = .slice ao l c ∧ Sl w (.slice ao l c) bs := by
  rcases open_ints Try.underlying24 Try.underlying5 (by kernel_rfl) h with ⟨hcs, _⟩ | ⟨x, l, c, zs, hcs, _, hl, hm, hz, _, hcell, hwz⟩
  · simp at hcs
    exact ⟨_, _, _, [], hcs, Sl.nil w⟩
  · simp at hcs
    subst hcs
    simp at hz
    have hlen : ((zs.take l).map fun n => UInt8.ofNat n.toNat).length = l := by simp; omega
    refine ⟨_, _, _, (zs.take l).map fun n => UInt8.ofNat n.toNat, rfl, some x, c, by rw [hlen], by omega, hm, fun e => by simp at e, fun hp => ?_⟩
    rw [hlen] at hp ⊢
    obtain ⟨b, off, rfl, hc⟩ := ints_at hcell (by omega)
    refine ⟨b, off, rfl, fun j hj => ?_⟩
    rw [hc j (by omega)]
    have hjz : j < zs.length := by omega
    have hb := bounds_u8 (hwz _ (List.getElem_mem hjz))
    have e1 : zs.getD j 0 = zs[j] := by simp [List.getD, List.getElem?_eq_getElem hjz]
    have e2 : ((zs.take l).map fun n => UInt8.ofNat n.toNat).getD j 0 = UInt8.ofNat (zs[j]).toNat := by
      simp [List.getD, hj, List.getElem?_eq_getElem hjz]
    unfold at8
    rw [e1, e2, toNat_lo (by omega)]
    congr 2
    omega
/-- The numbers of a slice that is read. -/
theorem toldI {H : Type} {enc : TypeId × Value → H} {w : World} {fuel : Nat} {v : Value} {y : DataW H × List MemPlace} (h : DataW.trod enc Try.prog w 0 (fun _ => true) true fuel 52 [v] = some y) : ∃ ao l c ns, v = .slice ao l c ∧ IsR w (.slice ao l c) (cI ns) ∧ (∀ n ∈ ns, I64 n) ∧ ns.length ≤ 9223372036854775807 := by
  rcases open_ints Try.underlying52 Try.underlying3 (by kernel_rfl) h with ⟨hcs, _⟩ | ⟨x, l, c, zs, hcs, _, hl, hm, hz, _, hcell, hwz⟩
  · simp at hcs
    exact ⟨_, _, _, [], hcs, ⟨none, 0, rfl, Nat.le_refl _, by simp [maxLen], fun h => by simp [cI] at h⟩, fun n h => by simp at h, by simp⟩
  · simp at hcs
    subst hcs
    simp at hz
    have hlen : (cI (zs.take l)).length = l := by rw [cI_len]; simp; omega
    have hm' : c ≤ 9223372036854775807 := hm
    refine ⟨_, _, _, zs.take l, rfl, ⟨some x, c, by rw [hlen], by omega, hm, fun hp => ?_⟩, fun n hn => bounds_i64 (hwz n (List.mem_of_mem_take hn)), by simp only [List.length_take]; omega⟩
    rw [hlen] at hp
    obtain ⟨b, off, rfl, hc⟩ := ints_at hcell (by omega)
    refine ⟨b, off, rfl, fun j u hj => ?_⟩
    have hjl : j < l := by
      have := (List.getElem?_eq_some_iff.1 hj).1
      rw [hlen] at this
      exact this
    have hjz : j < zs.length := by omega
    rw [hc j (by omega)]
    rw [← hj]
    simp [cI, hjl, List.getD, List.getElem?_eq_getElem hjz]
set_option maxRecDepth 100000 in
theorem told_snap {H : Type} {enc : TypeId × Value → H} {w : World} {r : Reach} {b0 : Nat} {v : Value} {d : DataW H} {p : List MemPlace} (hv : Value.okWide Try.prog w r b0 62 v) (h : DataW.Trod enc Try.prog w 0 (fun _ => true) true 62 v d p) :
    ∃ (s : Snp) (ac : Option Addr) (lc cc : Nat) (ad : Option Addr) (ld cd : Nat), v = .agg #[.int .i64 s.idx, .int .i64 s.term, .slice ac lc cc, .slice ad ld cd] ∧ SnV w ac lc cc ad ld cd s ∧ s.ok := by
  obtain ⟨v0, v1, v2, v3, y0, y1, y2, y3, n, rfl, _, _, h0, h1, h2, h3⟩ := open_agg4 Try.underlying62 (by kernel_rfl) (by kernel_rfl) hv h
  obtain ⟨z0, e0, _, w0⟩ := DataW.trod_int Try.underlying2 h0
  obtain ⟨z1, e1, _, w1⟩ := DataW.trod_int Try.underlying2 h1
  simp at e0 e1
  subst e0 e1
  obtain ⟨ac, lc, cc, ns, rfl, hI, hO, hL⟩ := toldI h2
  obtain ⟨ad, ld, cd, bs, rfl, hS⟩ := told8 h3
  refine ⟨⟨z0, z1, ns, bs⟩, ac, lc, cc, ad, ld, cd, rfl, ⟨hI, hS⟩, bounds_i64 w0, bounds_i64 w1, hO, hL, ?_⟩
  have h1 := hS.len
  obtain ⟨_, _, e, g1, g2, _⟩ := hS
  have g2' : _ ≤ 9223372036854775807 := g2
  show bs.length ≤ _
  omega

end Go.Proofs.Ytgknpbgepgmmmaa.Cm
namespace Go.Proofs.Ytgknpbgepgmmmaa.Cm
open Go.ChangeShapes Go.WideShapes Go.ChangeAt Go.RowKit Go.Joins
open Bn Kp

/-- The texts of a slice that is read. -/
theorem toldT {H : Type} {enc : TypeId × Value → H} {w : World} {fuel : Nat} {v : Value} {y : DataW H × List MemPlace} (h : DataW.trod enc Try.prog w 0 (fun _ => true) true fuel 42 [v] = some y) :
    ∃ ao l c ts, v = .slice ao l c ∧ IsR w (.slice ao l c) (cT ts) ∧ ∀ t ∈ ts, t.length ≤ 9223372036854775807 := by
  rcases Deep.open_slice1 Try.underlying42 (by kernel_rfl) h with ⟨hcs, _⟩ | ⟨a, l, c, m, n, V, D, Pl, hcs, _, hl, hm, hmm, _, hel⟩
  · simp at hcs
    exact ⟨_, _, _, [], hcs, ⟨none, 0, rfl, Nat.le_refl _, by simp [maxLen], fun h => by simp [cT] at h⟩, fun t h => by simp at h⟩
  · simp at hcs
    subst hcs
    simp at hmm
    have hs : ∀ i, i < l → ∃ t : List UInt8, w.cell? (a.add i) = some (tx t) ∧ t.length ≤ 9223372036854775807 := by
      intro i hi
      obtain ⟨hc, ht⟩ := hel i (by omega)
      obtain ⟨s, e, _, hz⟩ := DataW.trod_string Try.underlying9 ht
      simp at e
      refine ⟨s.data.toList, ?_, ?_⟩
      · rw [hc, e]
      · have e2 : s.data.toList.length = s.size := Array.length_toList
        exact Nat.le_trans (Nat.le_of_eq e2) hz
    obtain ⟨f, hf⟩ := Deep.choose_lt hs
    have hL : (cT ((List.range l).map f)).length = l := by rw [cT_len]; simp
    refine ⟨_, _, _, (List.range l).map f, rfl, ⟨some a, c, by rw [hL], by omega, hm, fun hp => ?_⟩, ?_⟩
    · rw [hL] at hp
      have h00 := (hf 0 hp).1
      obtain ⟨b, off, spot⟩ := a
      have hspot : spot = none := by
        have := World.cell?_spot h00
        simpa [Addr.add] using this
      subst hspot
      refine ⟨b, off, rfl, fun j u hj => ?_⟩
      have hjl : j < l := by
        have := (List.getElem?_eq_some_iff.1 hj).1
        rw [hL] at this
        exact this
      have g := (hf j hjl).1
      rw [Addr.add_lit] at g
      rw [g, ← hj]
      simp [cT, hjl]
    · intro t ht
      simp only [List.mem_map, List.mem_range] at ht
      obtain ⟨i, hi, rfl⟩ := ht
      exact (hf i hi).2
set_option maxRecDepth 100000 in
theorem told_reply {H : Type} {enc : TypeId × Value → H} {w : World} {r : Reach} {b0 : Nat} {v : Value} {d : DataW H} {p : List MemPlace} (hv : Value.okWide Try.prog w r b0 44 v) (h : DataW.Trod enc Try.prog w 0 (fun _ => true) true 44 v d p) :
    ∃ (s : Rp) (ar : Option Addr) (lr cr : Nat), v = .agg #[.int .i64 s.err, .bool s.ch, .slice ar lr cr] ∧ RpV w ar lr cr s ∧ ∀ t ∈ s.rows, t.length ≤ 9223372036854775807 := by
  obtain ⟨v0, v1, v2, y0, y1, y2, n, rfl, _, _, h0, h1, h2⟩ := open_agg3 Try.underlying44 (by kernel_rfl) (by kernel_rfl) hv h
  obtain ⟨z0, e0, _, w0⟩ := DataW.trod_int Try.underlying27 h0
  obtain ⟨z1, e1, _⟩ := DataW.trod_bool Try.underlying4 h1
  simp at e0 e1
  subst e0 e1
  obtain ⟨ar, lr, cr, ts, rfl, hI, hL⟩ := toldT h2
  exact ⟨⟨z0, z1, ts⟩, ar, lr, cr, rfl, ⟨hI⟩, hL⟩

/-- Every reply. -/
theorem reply_all {w : World} (r : Rp) {ac : Option Addr} {lc cc : Nat} (hr : RpV w ac lc cc r) (hl : ∀ t ∈ r.rows, t.length ≤ 9223372036854775807) (at_ x : Int) (hx : 0 ≤ x ∧ x ≤ 255) :
    Calls Try.prog 4 #[.agg #[.int .i64 r.err, .bool r.ch, .slice ac lc cc], .int .i64 at_, .int .u8 x] w fun e w' => e = .returned (.bool true) ∧ Below w.heap.size w w' := by
  by_cases h : r.err < 0
  · exact reply_out r hr hl at_ x (Or.inl h)
  · by_cases h' : 14 < r.err
    · exact reply_out r hr hl at_ x (Or.inr ⟨h, h'⟩)
    · exact reply_law r hr hl at_ x hx (by omega) (by omega)

end Go.Proofs.Ytgknpbgepgmmmaa.Cm

/- The walk of the law FrameScan. -/
import Derived.Test.YtoekpfopmgcbnaaDoorRefScan
import Derived.Deep.CutBlock
import Derived.Deep.RegionHeld
namespace Go.Proofs.YtoekpfopmgcbnaaDoor
open Go.RowKit

/-- A slice of slices that reads as these. -/
def Reads (w : World) (v : Value) (L : List (List UInt8)) : Prop :=
  ∃ ao cap, v = .slice ao L.length cap ∧ L.length ≤ cap ∧ cap ≤ maxLen ∧ ∀ (j : Nat) (b : List UInt8), L[j]? = some b → ∃ g u, ao = some ⟨g, 0, none⟩ ∧ w.cell? ⟨g, j, none⟩ = some u ∧ Sl w u b
theorem Reads.below {w w' : World} {v : Value} {L : List (List UInt8)} (h : Reads w v L) (hb : Below w.heap.size w w') : Reads w' v L := by
  obtain ⟨ao, cap, h1, h2, h3, h4⟩ := h
  refine ⟨ao, cap, h1, h2, h3, fun j b hj => ?_⟩
  obtain ⟨g, u, e, hc, hs⟩ := h4 j b hj
  exact ⟨g, u, e, (hb.cell (p := ⟨g, j, none⟩) (cell_lt hc)).trans hc, hs.below hb⟩
theorem Reads.of {E : Value → List UInt8 → Prop} {w : World} {base : Nat} {v : Value} {L : List (List UInt8)} (h : Sls E w base v L) (hE : ∀ u b, E u b → Sl w u b) : Reads w v L := by
  obtain ⟨ao, cap, h1, h2, h3, h4⟩ := h.shape
  obtain ⟨vals, hl, ho, he⟩ := h
  refine ⟨ao, cap, h1, h2, h3, fun j b hj => ?_⟩
  have hjl := (List.getElem?_eq_some_iff.1 hj).1
  obtain ⟨g, rfl⟩ := h4 (by omega)
  subst h1
  obtain ⟨u, e1, e2⟩ := he j b hj
  exact ⟨g, u, rfl, by rw [ho.cellAt j (by omega), e1], hE u b e2⟩

theorem scan_is (v : Value) (bs : List UInt8) (L : List (List UInt8)) (n : Nat) (w : World) (hS : Sl w v bs) (ht : Tab w) (hlim : bs.length ≤ 100000) (h : scanL bs = (L, n)) :
    Calls Tryd.prog 15 #[v] w fun e w' => ∃ vl, e = .returned (.tuple #[vl, .int .i64 (n : Int)]) ∧ Reads w' vl L ∧ Below w.heap.size w w' := by
  have hc := scan_any v bs w hS ht hlim
  rw [h] at hc
  exact hc.mono fun _ _ ⟨vl, e, h1, h2⟩ => ⟨vl, e, Reads.of h1 fun _ _ he => El.sl he, h2⟩
theorem rscan_is (v : Value) (bs : List UInt8) (L : List (List UInt8)) (n : Nat) (w : World) (hS : Sl w v bs) (hlim : bs.length ≤ 100000) (h : scanL bs = (L, n)) :
    Calls Tryd.prog 16 #[v] w fun e w' => ∃ vl, e = .returned (.tuple #[vl, .int .i64 (n : Int)]) ∧ Reads w' vl L ∧ Below w.heap.size w w' := by
  have hc := rscan_any v bs w hS hlim
  rw [h] at hc
  exact hc.mono fun _ _ ⟨vl, e, h1, h2⟩ => ⟨vl, e, Reads.of h1 fun _ _ he => he.below h2, h2⟩

set_option maxHeartbeats 4000000 in
theorem frameScan_walk (ap : Option Addr) (lenp capp : Nat) (at' : Int) (x : UInt8) (vr : Value) (rs : List UInt8) (w : World) (hp : 0 < lenp → ∃ g off, ap = some ⟨g, off, none⟩ ∧ ∀ j, j < lenp → ∃ u bs, w.cell? ⟨g, off + j, none⟩ = some u ∧ Sl w u bs)
    (hlp : lenp ≤ maxLen) (hSr : Sl w vr rs) (ht : Tab w) (ha1 : at' ≤ 9223372036854775807) :
    Calls Tryd.prog 4 #[.slice ap lenp capp, .int .i64 at', .int .u8 (x.toNat : Int), vr] w fun e w' => e = .returned (.bool true) ∧ Below w.heap.size w w' := by
  unfold maxLen at hlp
  obtain ⟨i5, hi, hz0, hz1, hz2⟩ := info_parts Tryd.info5
  obtain ⟨aor, capr, rfl, _, _⟩ := hSr.shape
  have HP : Hid (0 < lenp → ∃ g off, ap = some ⟨g, off, none⟩ ∧ ∀ j, j < lenp → ∃ u bs, w.cell? ⟨g, off + j, none⟩ = some u ∧ Sl w u bs) := hp
  have HR : Hid (Sl w (.slice aor rs.length capr) rs) := hSr
  have HT : Hid (Tab w) := ht
  clear hp hSr ht
  go_enter Tryd.func4, Tryd.ntmps4
  go_upto_block 0 with (go_at_call 8; refine (begun_any _ HT.out).mono ?_; rintro e w1 ⟨rfl, hb1⟩)
  go_cut [10] from 23 to 40 (fun vb wc => ∃ (cur : List UInt8), cur.length ≤ 340 ∧ wc.ownsRow w.heap.size 5 1 vb cur.length (cells8 cur) ∧ Below w.heap.size w wc)
  case first =>
    go_wp2_with fail
    go_loopw [10, 11] (fun vb i wr => ∃ (k : Nat) (cur : List UInt8), k ≤ lenp ∧ k ≤ 5 ∧ i = .int .i64 k ∧ cur.length ≤ 68 * k ∧ wr.ownsRow w.heap.size 5 1 vb cur.length (cells8 cur) ∧ Below w.heap.size w wr) (fun _ i _ => 5 - (intOf i).toNat)
    case atStart => exact ⟨0, [], Nat.zero_le _, Nat.zero_le _, rfl, Nat.zero_le _, World.ownsRow_nil _ _ _ _, hb1⟩
    case round =>
      obtain ⟨k, cur, hkl, hk5, rfl, hcl, hO, hb⟩ := hrel
      obtain ⟨aov, capv, rfl, _, _⟩ := (Sl.of_own hO).shape
      have hsz := hb.size
      by_cases hlt : k < lenp ∧ k < 5
      · obtain ⟨hl1, hl2⟩ := hlt
        obtain ⟨g, off, rfl, hc⟩ := HP.out (by omega)
        obtain ⟨u, bs, hcu, hSu⟩ := hc k hl1
        have hcx := (hb.cell (p := ⟨g, off + k, none⟩) (cell_lt hcu)).trans hcu
        have hSu' := hSu.below hb
        obtain ⟨aou, capu, rfl, _, _⟩ := hSu.shape
        clear hc hcu hSu
        go_wp2_with fail
        refine (short_any _ bs 60 _ hSu' (by omega)).mono ?_
        rintro e w' ⟨vs, rfl, hSs, hw⟩
        have hw' := hw.symm
        subst hw'
        have hlim : (bs.take 60).length ≤ 60 := by rw [List.length_take]; omega
        generalize bs.take 60 = cs at *
        obtain ⟨aos, caps, rfl, _, _⟩ := hSs.shape
        have hC := rseal_any _ cs wr hSs (by omega)
        obtain ⟨X, HX⟩ : ∃ X, Hid (X = sealL cs) := ⟨_, rfl⟩
        rw [← HX.out] at hC
        have hX2 : X.length ≤ 68 := by rw [HX.out, seal_len]; omega
        clear hw hcx
        go_wp2_with fail
        refine hC.mono ?_
        rintro e w2 ⟨v2, rfl, hO2, hb2⟩
        have hOv := own_below hO hb2
        have hbw2 := hb.trans (hb2.mono hsz)
        have hS2 := Sl.of_own hO2
        obtain ⟨ao2, cap2, rfl, _, _⟩ := hS2.shape
        have hsz2 := hbw2.size
        clear hC hO2 hb2 hO hSs hSu' hb hsz
        go_wp2_with (at_builtin; refine wpList_append_sl _ rfl (.tmp 33) (.tmp 39) 22 rfl w.heap.size i5 Tryd.underlying22 hi hz0 hz1 hz2 _ _ cur X rfl hOv rfl hS2 (by omega) hsz2 ?_)
        intro v3 w3 hO3 hg3 _
        have hb3 := hbw2.grown hg3 hsz2 (fun k hk => (hOv.lt k hk).1)
        obtain ⟨C, HC⟩ : ∃ C, Hid (C = cur ++ X) := ⟨_, rfl⟩
        have hO3' : w3.ownsRow w.heap.size 5 1 v3 (cur ++ X).length (cells8 (cur ++ X)) := by rw [List.length_append]; exact hO3
        rw [← HC.out] at hO3'
        have hCl : C.length ≤ 68 * (k + 1) := by rw [HC.out, List.length_append]; omega
        obtain ⟨ao3, cap3, rfl, _, _⟩ := (Sl.of_own hO3').shape
        clear hO3 hg3 hOv hS2 hbw2
        go_wp2
        go_roundw
        case rel => exact ⟨k + 1, C, by omega, by omega, by go_num, hCl, hO3', hb3⟩
        case measure => simp [intOf]; omega
      · rcases (show ¬ k < lenp ∨ (k < lenp ∧ ¬ k < 5) by omega) with h1 | ⟨h1, h2⟩
        · have h1' : ¬ (k : Int) < (lenp : Int) := by omega
          go_wp2_with fail
          go_meet
          exact ⟨cur, by omega, hO, hb⟩
        · have h1' : (k : Int) < (lenp : Int) := by omega
          have h2' : ¬ (k : Int) < 5 := by omega
          go_wp2_with fail
          go_meet
          exact ⟨cur, by omega, hO, hb⟩
  case rest =>
    obtain ⟨cur, hcl, hO, hb⟩ := hcut
    obtain ⟨aov, capv, rfl, _, _⟩ := (Sl.of_own hO).shape
    have hsz := hb.size
    go_wp2_with fail
    refine (short_any _ rs 30 _ (HR.out.below hb) (by omega)).mono ?_
    rintro e w' ⟨vs, rfl, hSs, hw⟩
    have hw' := hw.symm
    subst hw'
    have hlim : (rs.take 30).length ≤ 30 := by rw [List.length_take]; omega
    generalize rs.take 30 = ts at *
    obtain ⟨aos, caps, rfl, _, _⟩ := hSs.shape
    clear hw
    go_wp2_with (at_builtin; refine wpList_append_sl _ rfl (.tmp 41) (.tmp 43) 22 rfl w.heap.size i5 Tryd.underlying22 hi hz0 hz1 hz2 _ _ cur ts rfl hO rfl hSs (by omega) hsz ?_)
    intro v3 w3 hO3 hg3 _
    have hb3 := hb.grown hg3 hsz (fun k hk => (hO.lt k hk).1)
    obtain ⟨B, HB⟩ : ∃ B, Hid (B = cur ++ ts) := ⟨_, rfl⟩
    have hO3' : w3.ownsRow w.heap.size 5 1 v3 (cur ++ ts).length (cells8 (cur ++ ts)) := by rw [List.length_append]; exact hO3
    rw [← HB.out] at hO3'
    have hBl : B.length ≤ 370 := by rw [HB.out, List.length_append]; omega
    obtain ⟨aoB, capB, rfl, _, _⟩ := (Sl.of_own hO3').shape
    clear hO3 hg3
    go_upto_region 10 with fail
    clear hO hSs hb hsz
    go_cut [51] from 45 to 51 (fun t wd => ∃ b, t = .bool b ∧ (b = true → 0 < B.length ∧ 0 ≤ at') ∧ wd.ownsRow w.heap.size 5 1 (.slice aoB B.length capB) B.length (cells8 B) ∧ Below w.heap.size w wd)
    case first =>
      by_cases h0 : 0 < B.length
      · have h0' : (0 : Int) < (B.length : Int) := by omega
        by_cases h1 : 0 ≤ at'
        · go_wp2_with fail
          go_meet
          exact ⟨true, rfl, fun _ => ⟨h0, h1⟩, hO3', hb3⟩
        · go_wp2_with fail
          go_meet
          exact ⟨false, rfl, fun h => (by cases h), hO3', hb3⟩
      · have h0' : ¬ (0 : Int) < (B.length : Int) := by omega
        go_wp2_with fail
        go_meet
        exact ⟨false, rfl, fun h => (by cases h), hO3', hb3⟩
    case rest =>
      clear hO3' hb3
      obtain ⟨bt, rfl, hbt, hO4, hb4⟩ := hcut
      go_upto_if 51 with fail
      go_cut [] from 52 to 61 (fun wd => ∃ Z : List UInt8, Z.length = B.length ∧ wd.ownsRow w.heap.size 5 1 (.slice aoB B.length capB) B.length (cells8 Z) ∧ Below w.heap.size w wd)
      case first =>
        cases bt with
        | false =>
          go_wp2_with fail
          go_meet
          exact ⟨B, rfl, hO4, hb4⟩
        | true =>
          obtain ⟨h0, h1⟩ := hbt rfl
          obtain ⟨a, rfl⟩ : ∃ a : Nat, at' = (a : Int) := ⟨at'.toNat, by omega⟩
          obtain ⟨g, cap2, e, hgw, hgc, hgm⟩ := own_shape3 hO4 h0
          simp only [Value.slice.injEq] at e
          obtain ⟨rfl, _, rfl⟩ := e
          have hmod : Int.tmod (a : Int) (B.length : Int) = ((a % B.length : Nat) : Int) := rfl
          have hjl : a % B.length < B.length := Nat.mod_lt _ h0
          generalize a % B.length = j at hmod hjl
          have hcj : wc.cell? ⟨g, j, none⟩ = some (.int .u8 (at8 B j)) := by rw [hO4.cellAt j (by omega), cells8_at _ _ hjl]
          have hfj : wc.frozen? ⟨g, j, none⟩ = false := own_free hO4 j
          obtain ⟨y, hY⟩ : ∃ y : UInt8, bits .xor .u8 (at8 B j) (x.toNat : Int) = (y.toNat : Int) := ⟨_, xor_byte _ _⟩
          have hO5 := (hO4.stored j (.int .u8 (y.toNat : Int))).1
          rw [cells8_set] at hO5
          have hb5 : Below w.heap.size w (wc.setCell ⟨g, j, none⟩ (.int .u8 (y.toNat : Int))) := hb4.setCell (p := ⟨g, j, none⟩) hgw _
          have h0' : ((B.length : Int) == 0) = false := by rw [beq_eq_false_iff_ne]; omega
          clear hO4 hb4
          go_wp2_with fail
          go_meet
          exact ⟨B.set j y, List.length_set, hO5, hb5⟩
      case rest =>
        obtain ⟨Z, hZl, hO5, hb5⟩ := hcut
        clear hO4 hb4 hbt
        have hSZ : Sl wc (.slice aoB B.length capB) Z := by
          rw [← hZl] at hO5 ⊢
          exact Sl.of_own hO5
        obtain ⟨L, nn, HS⟩ : ∃ L nn, Hid (scanL Z = (L, nn)) := ⟨_, _, rfl⟩
        obtain ⟨o, HO⟩ : ∃ o, Hid (openL Z = o) := ⟨_, rfl⟩
        have hZb : Z.length ≤ 100000 := by omega
        have hC := scan_is _ Z L nn wc hSZ (HT.out.below hb5) hZb HS.out
        clear hO5
        go_wp2_with fail
        refine hC.mono ?_
        rintro e w6 ⟨vl, rfl, hRl, hb6⟩
        have hbw6 := hb5.trans (hb6.mono hb5.size)
        have hS6 := hSZ.below hb6
        have hC2 := rscan_is _ Z L nn w6 hS6 hZb HS.out
        clear hC hb6 hSZ hb5
        go_wp2_with fail
        refine hC2.mono ?_
        rintro e w7 ⟨vm, rfl, hRm, hb7⟩
        have hbw7 := hbw6.trans (hb7.mono hbw6.size)
        have hRl7 := hRl.below hb7
        have hC3 := open_is _ Z o o.isSome (o.getD []) w7 (hS6.below hb7) (HT.out.below hbw7) HO.out rfl rfl
        clear hC2 hb7 hS6 hbw6 hRl
        go_wp2_with fail
        refine hC3.mono ?_
        rintro e w8 ⟨vy, rfl, hOy, hb8⟩
        have hbw8 := hbw7.trans (hb8.mono hbw7.size)
        have hRl8 := hRl7.below hb8
        have hRm8 := hRm.below hb8
        have hSy := Sl.of_own hOy
        obtain ⟨aoy, capy, rfl, _, _⟩ := hSy.shape
        obtain ⟨aol, capl, rfl, hl1, hl2, hl3⟩ := hRl8
        obtain ⟨aom, capm, rfl, hm1, hm2, hm3⟩ := hRm8
        have HL : Hid (∀ (j : Nat) (b : List UInt8), L[j]? = some b → ∃ g u, aol = some ⟨g, 0, none⟩ ∧ w8.cell? ⟨g, j, none⟩ = some u ∧ Sl w8 u b) := hl3
        have HM : Hid (∀ (j : Nat) (b : List UInt8), L[j]? = some b → ∃ g u, aom = some ⟨g, 0, none⟩ ∧ w8.cell? ⟨g, j, none⟩ = some u ∧ Sl w8 u b) := hm3
        have HY : Hid (Sl w8 (.slice aoy (o.getD []).length capy) (o.getD [])) := hSy
        have HOP : Hid (o = if L.length = 1 ∧ nn = B.length then L.head? else none) := by
          show _ = _
          rw [← HO.out, open_one Z, HS.out, hZl]
        have HL2 : Hid (capl ≤ maxLen) := hl2
        clear hC3 hb8 hbw7 hRl7 hRm hOy hSy hl3 hm3 hcl hlim hlp ha1 hl2 hm2 hZb hi hz0 hz1 hz2
        clear HP HR
        go_upto_region 15 with fail
        go_cut [18] from 77 to 85 (fun s wd => s = .bool o.isSome ∧ wd = w8)
        case first =>
          by_cases h1 : L.length = 1
          · have h1' : ((L.length : Int) == 1) = true := by rw [beq_iff_eq]; omega
            by_cases h2 : nn = B.length
            · have h2' : ((nn : Int) == (B.length : Int)) = true := by rw [beq_iff_eq]; omega
              have HO2 : Hid (o.isSome = true) := by
                show _ = _
                rw [HOP.out, if_pos ⟨h1, h2⟩]
                cases L with
                | nil => simp at h1
                | cons c r => rfl
              clear h1 h2
              go_wp2_with fail
              go_meet
              exact ⟨by rw [HO2.out], rfl⟩
            · have h2' : ((nn : Int) == (B.length : Int)) = false := by rw [beq_eq_false_iff_ne]; omega
              have HO2 : Hid (o.isSome = false) := by
                show _ = _
                rw [HOP.out, if_neg (fun h => h2 h.2)]
                rfl
              clear h1 h2
              go_wp2_with fail
              go_meet
              exact ⟨by rw [HO2.out], rfl⟩
          · have h1' : ((L.length : Int) == 1) = false := by rw [beq_eq_false_iff_ne]; omega
            have HO2 : Hid (o.isSome = false) := by
              show _ = _
              rw [HOP.out, if_neg (fun h => h1 h.1)]
              rfl
            clear h1
            go_wp2_with fail
            go_meet
            exact ⟨by rw [HO2.out], rfl⟩
        case rest =>
          obtain ⟨rfl, hwd⟩ := hcut
          have hwd' := hwd.symm
          subst hwd'
          go_upto_region 16 with fail
          go_cut [112] from 86 to 112 (fun s wd => s = .bool false ∧ Below w8.heap.size w8 wd)
          case first =>
            cases o with
            | none =>
              have hq1 : ((nn : Int) != (nn : Int)) = false := by simp
              have hq2 : ((L.length : Int) != (L.length : Int)) = false := by simp
              simp only [Option.isSome_none, Option.getD_none, List.length_nil]
              go_big_quiet (fail)
              go_wp2_with fail
              go_meet
              exact ⟨rfl, below_drewN (Below.refl _ _) _⟩
            | some c =>
              obtain ⟨hL1, hnB⟩ : L.length = 1 ∧ nn = B.length := by
                have h := HOP.out
                by_cases hh : L.length = 1 ∧ nn = B.length
                · exact hh
                · rw [if_neg hh] at h; cases h
              have hLc : L = [c] := by
                have h := HOP.out
                rw [if_pos ⟨hL1, hnB⟩] at h
                cases L with
                | nil => simp at hL1
                | cons d r =>
                  simp at h hL1
                  rw [h, hL1]
              obtain ⟨gm, um, hgm, hcm, hSm⟩ := HM.out 0 c (by rw [hLc]; rfl)
              subst hgm
              obtain ⟨aou, capu, rfl, _, _⟩ := hSm.shape
              have k1 : w8.drew.cell? ⟨gm, 0, none⟩ = some (.slice aou c.length capu) := hcm
              have k2 := str_of_sl (P := Tryd.prog) (show Sl w8.drew _ c from hSm) 22 5 9 Tryd.underlying22 Tryd.underlying5 Tryd.underlying9
              have k3 := str_of_sl (P := Tryd.prog) (show Sl w8.drew (.slice aoy c.length capy) c from HY.out) 22 5 9 Tryd.underlying22 Tryd.underlying5 Tryd.underlying9
              have hq1 : ((nn : Int) != (nn : Int)) = false := by simp
              have hq2 : ((L.length : Int) != (L.length : Int)) = false := by simp
              have hLi : (0 : Int) < (L.length : Int) := by omega
              have hbd : Below w8.heap.size w8 w8.drew := (Below.refl _ _).drew
              simp only [Option.isSome_some, Option.getD_some]
              clear hLc hL1 hnB hcm hSm
              go_region_held (fun w' => w'.cell? ⟨gm, 0, none⟩ = some (.slice aou c.length capu) ∧ (convert 22 9 (.slice aou c.length capu)).run Tryd.prog w' = .ok (.string ⟨c.toArray⟩) w' ∧ (convert 22 9 (.slice aoy c.length capy)).run Tryd.prog w' = .ok (.string ⟨c.toArray⟩) w') (exact ⟨k1, k2, k3⟩) (fail)
              go_wp2_with fail
              go_meet
              exact ⟨rfl, hbd⟩
          case rest =>
            obtain ⟨rfl, hb9⟩ := hcut
            have hLb : L.length ≤ 9223372036854775807 := Nat.le_trans hl1 HL2.out
            go_wp2_with fail
            go_loopw [19] (fun i wr => ∃ k : Nat, k ≤ L.length ∧ i = .int .i64 k ∧ Below w8.heap.size w8 wr) (fun i _ => L.length - (intOf i).toNat)
            case atStart => exact ⟨0, Nat.zero_le _, rfl, hb9⟩
            case round =>
              obtain ⟨k, hk, rfl, hb⟩ := hrel
              clear hb9
              by_cases hlt : k < L.length
              · obtain ⟨b, hLk⟩ : ∃ b, L[k]? = some b := ⟨L[k], List.getElem?_eq_getElem hlt⟩
                obtain ⟨gl, ul, hgl, hcl, hSl⟩ := HL.out k b hLk
                obtain ⟨gm, um, hgm, hcm, hSm⟩ := HM.out k b hLk
                subst hgl
                subst hgm
                obtain ⟨ao1, cap1, rfl, _, _⟩ := hSl.shape
                obtain ⟨ao2, cap2, rfl, _, _⟩ := hSm.shape
                have hbd : Below w8.heap.size w8 wr.drew := hb.drew
                have k1 := (hbd.cell (p := ⟨gl, k, none⟩) (cell_lt hcl)).trans hcl
                have k2 := (hbd.cell (p := ⟨gm, k, none⟩) (cell_lt hcm)).trans hcm
                have k3 := str_of_sl (P := Tryd.prog) (hSl.below hbd) 22 5 9 Tryd.underlying22 Tryd.underlying5 Tryd.underlying9
                have k4 := str_of_sl (P := Tryd.prog) (hSm.below hbd) 22 5 9 Tryd.underlying22 Tryd.underlying5 Tryd.underlying9
                have hki : (k : Int) < (L.length : Int) := by omega
                have hk0 : (0 : Int) ≤ (k : Int) := by omega
                clear hLk hcl hcm hSl hSm
                go_wp2_with fail
                go_region_held (fun w' => w'.cell? ⟨gl, k, none⟩ = some (.slice ao1 b.length cap1) ∧ w'.cell? ⟨gm, k, none⟩ = some (.slice ao2 b.length cap2) ∧ (convert 22 9 (.slice ao1 b.length cap1)).run Tryd.prog w' = .ok (.string ⟨b.toArray⟩) w' ∧ (convert 22 9 (.slice ao2 b.length cap2)).run Tryd.prog w' = .ok (.string ⟨b.toArray⟩) w') (exact ⟨k1, k2, k3, k4⟩) (fail)
                clear k1 k2 k3 k4
                go_wp2
                go_roundw
                case rel => exact ⟨k + 1, by omega, by go_num, hbd⟩
                case measure => simp [intOf]; omega
              · have hlt' : ¬ (k : Int) < (L.length : Int) := by omega
                go_wp2_with fail
                go_ret
                exact ⟨rfl, hbw8.trans (hb.mono hbw8.size)⟩
end Go.Proofs.YtoekpfopmgcbnaaDoor

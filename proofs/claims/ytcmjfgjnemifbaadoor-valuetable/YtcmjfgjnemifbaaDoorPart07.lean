/- The law of the table. -/
import Derived.Test.YtcmjfgjnemifbaaDoorPart06
import Derived.Lib.QuietBelow
namespace Go.Proofs.YtcmjfgjnemifbaaDoor
open Go.RowKit

/-- What is known of the list. -/
def Dg (D : List Tm) : Prop := D.Nodup ∧ ∀ t ∈ D, mayM t = true
theorem row_any {w : World} {v : Value} {D : List Tm} (h : w.ownsRow 0 23 3 v D.length (cellsT D)) : ∃ ao cap, v = .slice ao D.length cap ∧ (0 < D.length → ∃ g, ao = some ⟨g, 0, none⟩) := by
  rcases own_shape h with ⟨rfl, h0⟩ | ⟨g, cap, rfl, _⟩
  · exact ⟨none, 0, by rw [h0], fun hp => by omega⟩
  · exact ⟨_, cap, rfl, fun _ => ⟨g, rfl⟩⟩
theorem row_cell {w : World} {g cap : Nat} {D : List Tm} (h : w.ownsRow 0 23 3 (.slice (some ⟨g, 0, none⟩) D.length cap) D.length (cellsT D)) (i : Nat) (hi : i < D.length) :
    w.cell? ⟨g, i * 3, none⟩ = some (.int .i64 D[i].1) ∧ w.cell? ⟨g, i * 3 + 1, none⟩ = some (.string D[i].2.1) ∧ w.cell? ⟨g, i * 3 + 2, none⟩ = some (.int .i64 D[i].2.2) := by
  have hc := cellsT_get D i hi
  exact ⟨(h.cellAt _ (by omega)).trans hc.1, (h.cellAt _ (by omega)).trans hc.2.1, (h.cellAt _ (by omega)).trans hc.2.2⟩
theorem last_step (D : List Tm) (c : Tm) (j : Nat) (hj : j < D.length) : lastTo D c (j + 1) = if eqM D[j] c = true then j + 1 else lastTo D c j := by
  rw [lastTo, eqM_dec, List.getElem?_eq_getElem hj]
  simp

set_option maxHeartbeats 4000000 in
set_option maxRecDepth 20000 in
theorem tableLaw_any (v : Value) (L : List Tm) (w : World) (h : Ts w v L) (hlen : L.length ≤ maxLen) :
    Calls Tryd.prog 4 #[v] w fun e w' => e = .returned (.bool true) ∧ Below w.heap.size w w' := by
  obtain ⟨ao, cap, rfl, h1, h2⟩ := h
  have hlen : L.length ≤ 9223372036854775807 := hlen
  have H2 : Hid _ := h2
  clear h2
  go_enter Tryd.func4, Tryd.ntmps4
  go_wp2_with fail
  refine (begun_any _).mono ?_
  rintro e w1 ⟨rfl, hb1⟩
  have H0 : Hid (∃ G, Lt w (w1.alloc (.cells #[.slice none 0 0, .map none] 48)) w1.heap.size (.slice none 0 0) [] [] G) :=
    ⟨_, ⟨by simp [cellsT], .inl ⟨rfl, rfl⟩⟩, ⟨_, _, tb_new w1⟩, fun k hk => by have := hb1.size; have hk' : k = w1.heap.size := hk; omega, fun k hk => by simp [Value.ownBlock] at hk, hb1.alloc hb1.size _⟩
  clear hb1
  go_wp2_with (go_at_call 17; refine (new_any _).mono ?_; rintro e w2 ⟨rfl, rfl⟩)
  generalize w1.alloc (.cells #[.slice none 0 0, .map none] 48) = w2 at *
  generalize w1.heap.size = p at *
  go_loopw [5, 6] (fun hv iv wr => ∃ (k : Nat) (D : List Tm), iv = .int .i64 k ∧ k ≤ 40 ∧ k ≤ L.length ∧ D.length ≤ k ∧ Hid (Dg D) ∧ Hid (∃ G, Lt w wr p hv D D G)) (fun _ iv _ => 41 - (intOf iv).toNat)
  case atStart => exact ⟨0, [], rfl, Nat.zero_le _, Nat.zero_le _, Nat.le_refl _, ⟨by simp, fun t ht => by simp at ht⟩, H0⟩
  case round =>
    clear H0
    obtain ⟨k, D, rfl, hk40, hkL, hDk, HD, HL⟩ := hrel
    obtain ⟨G, hLt⟩ := HL.out
    clear HL
    obtain ⟨ao5, cap5, rfl, hao5⟩ := row_any hLt.row
    by_cases hgo : k < L.length ∧ k < 40
    · obtain ⟨hlt, h40⟩ := hgo
      obtain ⟨g, off, rfl, hc⟩ := H2.out (by omega)
      have hltI : (k : Int) < (L.length : Int) := by omega
      have h40I : (k : Int) < 40 := by omega
      have c := hc k hlt
      have hbw := hLt.below
      have d0 := (World.cell?_of_block (hbw.block g (World.block_lt_of_cell? w _ c.1))).trans c.1
      have d1 := (World.cell?_of_block (hbw.block g (World.block_lt_of_cell? w _ c.1))).trans c.2.1
      have d2 := (World.cell?_of_block (hbw.block g (World.block_lt_of_cell? w _ c.1))).trans c.2.2
      generalize L[k] = t at *
      have HLt : Hid (Lt w wr p (.slice ao5 D.length cap5) D D G) := hLt
      have Hao5 : Hid _ := hao5
      clear c hc hbw hLt hao5
      go_wp2_with fail
      refine (cutT_any _ _ _ _).mono ?_
      rintro e w3 ⟨rfl, hb3⟩
      have HLt3 : Hid (Lt w w3 p (.slice ao5 D.length cap5) D D G) := HLt.out.keep hb3
      have hsz := cutS_size t.2.1 20
      clear hb3 HLt d0 d1 d2
      have HB : Hid (Lt w (w3.alloc (.cells #[.int .i64 t.1, .string (cutS t.2.1 20), .int .i64 t.2.2] 23)) p (.slice ao5 D.length cap5) D D G ∧ Lc (w3.alloc (.cells #[.int .i64 t.1, .string (cutS t.2.1 20), .int .i64 t.2.2] 23)) w3.heap.size (t.1, cutS t.2.1 20, t.2.2) G (.slice ao5 D.length cap5)) := HLt3.out.box (t.1, cutS t.2.1 20, t.2.2) _ rfl
      clear HLt3
      go_wp2_with fail
      generalize cutS t.2.1 20 = sc at *
      generalize w3.alloc (.cells #[.int .i64 t.1, .string sc, .int .i64 t.2.2] 23) = w4 at *
      generalize w3.heap.size = cb at *
      go_loopw [8, 9] (fun kv jv wq => ∃ j : Nat, jv = .int .i64 j ∧ j ≤ D.length ∧ kv = .int .i64 ((lastTo D (t.1, sc, t.2.2) j : Nat) : Int) ∧ Hid (Lt w wq p (.slice ao5 D.length cap5) D D G ∧ Lc wq cb (t.1, sc, t.2.2) G (.slice ao5 D.length cap5))) (fun _ jv _ => D.length - (intOf jv).toNat)
      case atStart => exact ⟨0, rfl, Nat.zero_le _, rfl, HB⟩
      case round =>
        clear HB
        obtain ⟨j, rfl, hjD, rfl, HB⟩ := hrel
        obtain ⟨m0, m1, m2⟩ := HB.out.2.cells
        by_cases hj : j < D.length
        · obtain ⟨g5, rfl⟩ := Hao5.out (by omega)
          have hjI : (j : Int) < (D.length : Int) := by omega
          obtain ⟨n0, n1, n2⟩ := row_cell HB.out.1.row j hj
          have HST := last_step D (t.1, sc, t.2.2) j hj
          have HE : Hid (∀ n, Calls Tryd.prog 14 #[.agg #[.int .i64 D[j].1, .string D[j].2.1, .int .i64 D[j].2.2], .agg #[.int .i64 t.1, .string sc, .int .i64 t.2.2]] (wr.drewN n) fun e w' => e = .returned (.bool (eqM D[j] (t.1, sc, t.2.2))) ∧ ((w'.cell? ⟨g5, j * 3, none⟩ = some (.int .i64 D[j].1) ∧ w'.cell? ⟨g5, j * 3 + 1, none⟩ = some (.string D[j].2.1) ∧ w'.cell? ⟨g5, j * 3 + 2, none⟩ = some (.int .i64 D[j].2.2)) ∧ w'.cell? ⟨cb, 0, none⟩ = some (.int .i64 t.1) ∧ w'.cell? ⟨cb, 1, none⟩ = some (.string sc) ∧ w'.cell? ⟨cb, 2, none⟩ = some (.int .i64 t.2.2)) ∧ Hid (Lt w w' p (.slice (some ⟨g5, 0, none⟩) D.length cap5) D D G ∧ Lc w' cb (t.1, sc, t.2.2) G (.slice (some ⟨g5, 0, none⟩) D.length cap5))) := fun n => by
            have hbn : Below wr.heap.size wr (wr.drewN n) := ⟨rfl, rfl, rfl, Nat.le_refl _, fun _ _ => rfl⟩
            refine (eqRef_any _ _ _ _ _ _ _).mono ?_
            rintro e w' ⟨rfl, hb⟩
            have k1 := (HB.out.1.keep hbn).keep hb
            have k2 := (HB.out.2.keep hbn).keep hb
            exact ⟨rfl, ⟨row_cell k1.row j hj, k2.cells⟩, k1, k2⟩
          have HE1 : Hid _ := HE.out 1
          clear HE HB
          generalize eqM D[j] (t.1, sc, t.2.2) = be at HE1 HST
          generalize D[j] = x at *
          go_wp2_with fail
          go_region_held (fun w' => (w'.cell? ⟨g5, j * 3, none⟩ = some (.int .i64 x.1) ∧ w'.cell? ⟨g5, j * 3 + 1, none⟩ = some (.string x.2.1) ∧ w'.cell? ⟨g5, j * 3 + 2, none⟩ = some (.int .i64 x.2.2)) ∧ w'.cell? ⟨cb, 0, none⟩ = some (.int .i64 t.1) ∧ w'.cell? ⟨cb, 1, none⟩ = some (.string sc) ∧ w'.cell? ⟨cb, 2, none⟩ = some (.int .i64 t.2.2))
            (first | exact ⟨⟨n0, n1, n2⟩, m0, m1, m2⟩)
            (first | (go_at_call 14; refine Calls.mono HE1.out ?_; rintro e w5 ⟨rfl, ⟨⟨n0, n1, n2⟩, m0, m1, m2⟩, HB⟩))
          cases be with
          | true =>
            simp only [if_true] at HST
            go_wp2_with fail
            go_roundw
            case rel => exact ⟨j + 1, by go_num, by omega, by rw [HST]; go_num, HB⟩
            case measure => simp [intOf]; omega
          | false =>
            simp only [Bool.false_eq_true, if_false] at HST
            go_wp2_with fail
            go_roundw
            case rel => exact ⟨j + 1, by go_num, by omega, by rw [HST], HB⟩
            case measure => simp [intOf]; omega
        · have hje : j = D.length := by omega
          subst hje
          have hjI : ¬ (D.length : Int) < (D.length : Int) := by omega
          have HF := lastTo_find (c := (t.1, sc, t.2.2)) HD.out.1
          generalize lastTo D (t.1, sc, t.2.2) D.length = z at *
          cases hf : find D (t.1, sc, t.2.2) 0 with
          | some q =>
            rw [hf] at HF
            have HF : z = q + 1 := HF
            have hz0 : ((z : Int) == 0) = false := by rw [beq_eq_false_iff_ne]; omega
            have hmc : mayM (t.1, sc, t.2.2) = true := by
              obtain ⟨_, hq⟩ := find_some hf
              exact HD.out.2 _ (List.mem_of_getElem? hq)
            have e1 : idN D (t.1, sc, t.2.2) = z := by rw [idN, if_pos hmc, hf, HF]
            have e2 : addT D (t.1, sc, t.2.2) = D := by simp [addT, hf]
            have HI : Hid (Calls Tryd.prog 18 #[.pointer (some ⟨p, 0, none⟩), .agg #[.int .i64 t.1, .string sc, .int .i64 t.2.2]] wr fun e w' => e = .returned (.int .i64 (z : Int)) ∧ Hid (∃ G', Lt w w' p (.slice ao5 D.length cap5) D D G')) := by
              have h := HB.out.1.id (t.1, sc, t.2.2) (by show sc.size ≤ 1000; omega) (by omega)
              rw [e1, e2] at h
              exact h
            have HZ : Hid (1 ≤ z) := by show 1 ≤ z; omega
            clear HF hf hmc e1 e2 HB
            go_wp2_with fail
            refine Calls.mono HI.out ?_
            rintro e w5 ⟨rfl, HG5⟩
            have HLn : Hid (Calls Tryd.prog 19 #[.pointer (some ⟨p, 0, none⟩)] w5 fun e w' => e = .returned (.int .i64 (D.length : Int)) ∧ w' = w5) := by
              obtain ⟨G', h5⟩ := HG5.out
              exact h5.len
            clear HI
            go_wp2_with (go_at_call 19; refine Calls.mono HLn.out ?_; rintro e w' ⟨rfl, hw⟩; have hw' := hw.symm; subst hw'; clear hw)
            go_roundw
            case rel => exact ⟨k + 1, D, by go_num, by omega, by omega, by omega, HD, HG5⟩
            case measure => simp [intOf]; omega
          | none =>
            rw [hf] at HF
            have HF : z = 0 := HF
            have hz0 : ((z : Int) == 0) = true := by rw [beq_iff_eq]; omega
            have HM : Hid (Calls Tryd.prog 10 #[.agg #[.int .i64 t.1, .string sc, .int .i64 t.2.2]] wr fun e w' => e = .returned (.bool (mayM (t.1, sc, t.2.2))) ∧ (w'.cell? ⟨cb, 0, none⟩ = some (.int .i64 t.1) ∧ w'.cell? ⟨cb, 1, none⟩ = some (.string sc) ∧ w'.cell? ⟨cb, 2, none⟩ = some (.int .i64 t.2.2)) ∧ Hid (Lt w w' p (.slice ao5 D.length cap5) D D G ∧ Lc w' cb (t.1, sc, t.2.2) G (.slice ao5 D.length cap5))) := by
              refine (mayRef_any _ _ _ _ (by omega)).mono ?_
              rintro e w' ⟨rfl, hb⟩
              exact ⟨rfl, (HB.out.2.keep hb).cells, HB.out.1.keep hb, HB.out.2.keep hb⟩
            have HZ : Hid (z = 0) := HF
            clear HF HB
            go_wp2_with fail
            refine Calls.mono HM.out ?_
            clear m0 m1 m2 HM
            rintro e w5 ⟨rfl, ⟨m0, m1, m2⟩, HB⟩
            cases hmc : mayM (t.1, sc, t.2.2) with
            | false =>
              have e1 : idN D (t.1, sc, t.2.2) = z := by rw [idN, if_neg (by rw [hmc]; simp), HZ.out]
              have e2 : addT D (t.1, sc, t.2.2) = D := by simp [addT, hmc]
              have HI : Hid (Calls Tryd.prog 18 #[.pointer (some ⟨p, 0, none⟩), .agg #[.int .i64 t.1, .string sc, .int .i64 t.2.2]] w5 fun e w' => e = .returned (.int .i64 (z : Int)) ∧ Hid (∃ G', Lt w w' p (.slice ao5 D.length cap5) D D G')) := by
                have h := HB.out.1.id (t.1, sc, t.2.2) (by show sc.size ≤ 1000; omega) (by omega)
                rw [e1, e2] at h
                exact h
              clear hf hmc e1 e2 HB
              go_wp2_with fail
              refine Calls.mono HI.out ?_
              rintro e w6 ⟨rfl, HG5⟩
              have HLn : Hid (Calls Tryd.prog 19 #[.pointer (some ⟨p, 0, none⟩)] w6 fun e w' => e = .returned (.int .i64 (D.length : Int)) ∧ w' = w6) := by
                obtain ⟨G', h5⟩ := HG5.out
                exact h5.len
              clear HI
              go_wp2_with (go_at_call 19; refine Calls.mono HLn.out ?_; rintro e w' ⟨rfl, hw⟩; have hw' := hw.symm; subst hw'; clear hw)
              go_roundw
              case rel => exact ⟨k + 1, D, by go_num, by omega, by omega, by omega, HD, HG5⟩
              case measure => simp [intOf]; omega
            | true =>
              have e1 : idN D (t.1, sc, t.2.2) = D.length + 1 := by rw [idN, if_pos hmc, hf]
              have e2 : addT D (t.1, sc, t.2.2) = D ++ [(t.1, sc, t.2.2)] := by simp [addT, hmc, hf]
              obtain ⟨g6, cap6, w6, hap, HB6⟩ := HB.out.1.push HB.out.2 (by omega)
              obtain ⟨y0, y1, y2⟩ := HB6.out.2.cells
              have HI : Hid (Calls Tryd.prog 18 #[.pointer (some ⟨p, 0, none⟩), .agg #[.int .i64 t.1, .string sc, .int .i64 t.2.2]] w6 fun e w' => e = .returned (.int .i64 ((D.length : Int) + 1)) ∧ Hid (∃ G', Lt w w' p (.slice (some ⟨g6, 0, none⟩) (D.length + 1) cap6) (D ++ [(t.1, sc, t.2.2)]) (D ++ [(t.1, sc, t.2.2)]) G')) := by
                have h := HB6.out.1.id (t.1, sc, t.2.2) (by show sc.size ≤ 1000; omega) (by omega)
                rw [e1, e2] at h
                exact h
              have HD6 : Hid (Dg (D ++ [(t.1, sc, t.2.2)])) := by
                refine ⟨?_, fun u hu => ?_⟩
                · have hni := find_none hf
                  rw [List.nodup_append]
                  refine ⟨HD.out.1, by simp, fun a ha b hb e => ?_⟩
                  simp at hb
                  rw [hb] at e
                  exact hni (e ▸ ha)
                · rcases List.mem_append.1 hu with hu | hu
                  · exact HD.out.2 u hu
                  · simp at hu
                    rw [hu]
                    exact hmc
              clear hf hmc e1 e2 HB HB6 HD
              go_wp2_with (at_builtin; refine wpList_append_run _ rfl (.tmp 52) (.tmp 54) 29 29 rfl _ _ rfl rfl (hap _) ?_)
              refine Calls.mono HI.out ?_
              rintro e w7 ⟨rfl, HG5⟩
              have HLn : Hid (Calls Tryd.prog 19 #[.pointer (some ⟨p, 0, none⟩)] w7 fun e w' => e = .returned (.int .i64 ((D.length : Int) + 1)) ∧ w' = w7) := by
                obtain ⟨G', h5⟩ := HG5.out
                have h := h5.len
                rw [List.length_append] at h
                exact h
              clear HI
              go_wp2_with (go_at_call 19; refine Calls.mono HLn.out ?_; rintro e w' ⟨rfl, hw⟩; have hw' := hw.symm; subst hw'; clear hw)
              go_roundw
              case rel => exact ⟨k + 1, D ++ [(t.1, sc, t.2.2)], by go_num, by omega, by omega, by simp; omega, HD6, HG5⟩
              case measure => simp [intOf]; omega
    · have HLt : Hid (∃ G, Lt w wr p (.slice ao5 D.length cap5) D D G) := ⟨G, hLt⟩
      have Hao5 : Hid _ := hao5
      have hD40 : D.length ≤ 40 := by omega
      clear hLt hao5 H2
      have hex : (¬ (k : Int) < (L.length : Int)) ∨ ((k : Int) < (L.length : Int) ∧ ¬ (k : Int) < 40) := by omega
      rcases hex with hx | ⟨hx, hx'⟩
      · go_wp2_with fail
        go_loopw [10] (fun iv wq => ∃ i : Int, iv = .int .i64 i ∧ -1 ≤ i ∧ i ≤ (D.length : Int) + 2 ∧ Hid (∃ G, Lt w wq p (.slice ao5 D.length cap5) D D G)) (fun iv _ => ((D.length : Int) + 3 - intOf iv).toNat)
        case atStart => exact ⟨-1, rfl, by omega, by omega, HLt⟩
        case round =>
          clear HLt
          obtain ⟨i, rfl, hi0, hi1, HLt⟩ := hrel
          by_cases hend : i ≤ (D.length : Int) + 1
          · have HT : Hid (Calls Tryd.prog 20 #[.pointer (some ⟨p, 0, none⟩), .int .i64 i] wr fun e w' => e = .returned (.agg #[.int .i64 (termAt D i).1, .string (termAt D i).2.1, .int .i64 (termAt D i).2.2]) ∧ Hid (∃ G, Lt w w' p (.slice ao5 D.length cap5) D D G)) := by
              obtain ⟨G', h5⟩ := HLt.out
              exact (h5.term i (by omega)).mono fun e w' ⟨he, hb⟩ => ⟨he, G', h5.keep hb⟩
            clear HLt
            by_cases hlo : i < 1
            · have hx0 := termAt_out D i (Or.inl hlo)
              have g1 : decide (1 ≤ i) = false := by simp; omega
              have g2 : decide (i < 1) = true := by simp; omega
              rw [hx0] at HT
              go_wp2_with fail
              refine Calls.mono HT.out ?_
              rintro e w5 ⟨rfl, HG⟩
              have HG6 : Hid (∀ n, ∃ G, Lt w ((w5.alloc (.cells #[.int .i64 0, .string ⟨#[]⟩, .int .i64 0] 23)).drewN n) p (.slice ao5 D.length cap5) D D G) := by
                obtain ⟨G', h5⟩ := HG.out
                exact fun n => ⟨G', (h5.keep (below_box _ _)).keep ⟨rfl, rfl, rfl, Nat.le_refl _, fun _ _ => rfl⟩⟩
              clear HT HG
              go_wp2_with fail
              go_quiet (fail)
              go_wp2_with fail
              go_roundw
              case rel => exact ⟨i + 1, by go_num, by omega, by omega, HG6.out _⟩
              case measure => simp [intOf]; omega
            · by_cases hhi : i ≤ (D.length : Int)
              · obtain ⟨j, hij⟩ : ∃ j : Nat, i - 1 = (j : Int) := ⟨(i - 1).toNat, by omega⟩
                have hj : j < D.length := by omega
                have hti : termAt D i = D[j] := by
                  have := termAt_in D j hj
                  rw [show (j : Int) + 1 = i by omega] at this
                  exact this
                obtain ⟨gb, rfl⟩ := Hao5.out (by omega)
                rw [hti] at HT
                have g1 : 1 ≤ i := by omega
                have g2 : decide (i < 1) = false := by simp; omega
                have g4 : decide ((D.length : Int) < i) = false := by simp; omega
                have hjI : (j : Int) < (D.length : Int) := by omega
                have hwr : IntKind.i64.wrap (j : Int) = (j : Int) := by rw [IntKind.wrap_i64]; omega
                clear hti
                go_wp2_with fail
                refine Calls.mono HT.out ?_
                rintro e w5 ⟨rfl, HG⟩
                have HS : Hid (∀ W, (∃ G, Lt w W p (.slice (some ⟨gb, 0, none⟩) D.length cap5) D D G) → W.heap[w5.heap.size]? = some (.cells #[.int .i64 D[j].1, .string D[j].2.1, .int .i64 D[j].2.2] 23 (0, 0)) → (W.cell? ⟨w5.heap.size, 0, none⟩ = some (.int .i64 D[j].1) ∧ W.cell? ⟨w5.heap.size, 1, none⟩ = some (.string D[j].2.1) ∧ W.cell? ⟨w5.heap.size, 2, none⟩ = some (.int .i64 D[j].2.2)) ∧ W.cell? ⟨gb, j * 3, none⟩ = some (.int .i64 D[j].1) ∧ W.cell? ⟨gb, j * 3 + 1, none⟩ = some (.string D[j].2.1) ∧ W.cell? ⟨gb, j * 3 + 2, none⟩ = some (.int .i64 D[j].2.2)) := fun W hW hx => by
                  obtain ⟨G', h5⟩ := hW
                  exact ⟨⟨by rw [cell_of_row W _ 0 _ _ _ hx]; rfl, by rw [cell_of_row W _ 1 _ _ _ hx]; rfl, by rw [cell_of_row W _ 2 _ _ _ hx]; rfl⟩, row_cell h5.row j hj⟩
                have HG6 : Hid ((∃ G, Lt w (w5.alloc (.cells #[.int .i64 D[j].1, .string D[j].2.1, .int .i64 D[j].2.2] 23)) p (.slice (some ⟨gb, 0, none⟩) D.length cap5) D D G) ∧ (w5.alloc (.cells #[.int .i64 D[j].1, .string D[j].2.1, .int .i64 D[j].2.2] 23)).heap[w5.heap.size]? = some (.cells #[.int .i64 D[j].1, .string D[j].2.1, .int .i64 D[j].2.2] 23 (0, 0))) := by
                  obtain ⟨G', h5⟩ := HG.out
                  exact ⟨⟨G', h5.keep (below_box _ _)⟩, heap_alloc_new _ _⟩
                have HX : Hid (∃ G, Lt w (w5.alloc (.cells #[.int .i64 D[j].1, .string D[j].2.1, .int .i64 D[j].2.2] 23)) p (.slice (some ⟨gb, 0, none⟩) D.length cap5) D D G) := HG6.out.1
                obtain ⟨⟨x0, x1, x2⟩, n0, n1, n2⟩ := HS.out _ HG6.out.1 HG6.out.2
                have HQ := eqM_self D[j]
                clear HT HG HS HG6
                generalize D[j] = x at *
                go_wp2_with fail
                generalize w5.alloc (.cells #[.int .i64 x.1, .string x.2.1, .int .i64 x.2.2] 23) = X at *
                have k0 := cell_regrown x0
                have k1 := cell_regrown x1
                have k2 := cell_regrown x2
                have k3 := cell_regrown n0
                have k4 := cell_regrown n1
                have k5 := cell_regrown n2
                have cE : ∀ d os, Calls Tryd.prog 14 #[.agg #[.int .i64 x.1, .string x.2.1, .int .i64 x.2.2], .agg #[.int .i64 x.1, .string x.2.1, .int .i64 x.2.2]] (Sort.grow (redrawn X d) os) fun e w'' => e = .returned (.bool true) ∧ ∃ p : Regrown, w'' = Sort.grow (redrawn X p.d) p.os := fun d os => Calls.regrown_of (by
                  have h := eqRef_any x.1 x.1 x.2.2 x.2.2 x.2.1 x.2.1 (Sort.grow (redrawn X d) os)
                  have hq : eqT x.1 x.2.1 x.2.2 x.1 x.2.1 x.2.2 = true := HQ
                  rw [hq] at h
                  exact h)
                have g5 : decide (i < 1) = false := by simp; omega
                have g6 : decide ((D.length : Int) < i) = false := by simp; omega
                refine wp_region_quiet_below (by kernel_rfl) (by kernel_rfl) ?_
                repeat (quiet_step (first | exact cE _ _))
                refine wpQuiet_nil ?_
                intro _ hw'
                obtain ⟨⟨dq, osq⟩, hw''⟩ := hw'
                subst hw''
                have HG6 : Hid (∃ G, Lt w (Sort.grow (redrawn X dq) osq) p (.slice (some ⟨gb, 0, none⟩) D.length cap5) D D G) := by
                  obtain ⟨G', h6⟩ := HX.out
                  exact ⟨G', h6.keep (below_regrown X dq osq)⟩
                go_wp2_with fail
                go_roundw
                case rel => exact ⟨i + 1, by go_num, by omega, by omega, HG6⟩
                case measure => simp [intOf]; omega
              · have hx0 := termAt_out D i (Or.inr (by omega))
                have g1 : decide (1 ≤ i) = true := by simp; omega
                have g2 : decide (i < 1) = false := by simp; omega
                have g3 : decide (i ≤ (D.length : Int)) = false := by simp; omega
                have g4 : decide ((D.length : Int) < i) = true := by simp; omega
                rw [hx0] at HT
                go_wp2_with fail
                refine Calls.mono HT.out ?_
                rintro e w5 ⟨rfl, HG⟩
                have HG6 : Hid (∀ n, ∃ G, Lt w ((w5.alloc (.cells #[.int .i64 0, .string ⟨#[]⟩, .int .i64 0] 23)).drewN n) p (.slice ao5 D.length cap5) D D G) := by
                  obtain ⟨G', h5⟩ := HG.out
                  exact fun n => ⟨G', (h5.keep (below_box _ _)).keep ⟨rfl, rfl, rfl, Nat.le_refl _, fun _ _ => rfl⟩⟩
                clear HT HG
                go_wp2_with fail
                go_quiet (fail)
                go_wp2_with fail
                go_roundw
                case rel => exact ⟨i + 1, by go_num, by omega, by omega, HG6.out _⟩
                case measure => simp [intOf]; omega
          · obtain ⟨G', h5⟩ := HLt.out
            have hb5 := h5.below
            clear HLt h5
            have HI : Hid (∀ W, Calls Tryd.prog 18 #[.pointer none, .agg #[.int .i64 3, .string ⟨#[]⟩, .int .i64 0]] W fun e w' => e = .returned (.int .i64 0) ∧ Below W.heap.size W w') := fun W => id_nil (3, ⟨#[]⟩, 0) W
            go_wp2_with (first
              | (go_at_call 18; refine (HI.out _).mono ?_; rintro e w6 ⟨rfl, hb6⟩)
              | (go_at_call 19; refine (len_nil _).mono ?_; rintro e w' ⟨rfl, hw⟩; have hw' := hw.symm; subst hw'; clear hw))
            go_ret
            exact ⟨rfl, hb5.trans (hb6.mono hb5.size)⟩
      · go_wp2_with fail
        go_loopw [10] (fun iv wq => ∃ i : Int, iv = .int .i64 i ∧ -1 ≤ i ∧ i ≤ (D.length : Int) + 2 ∧ Hid (∃ G, Lt w wq p (.slice ao5 D.length cap5) D D G)) (fun iv _ => ((D.length : Int) + 3 - intOf iv).toNat)
        case atStart => exact ⟨-1, rfl, by omega, by omega, HLt⟩
        case round =>
          clear HLt
          obtain ⟨i, rfl, hi0, hi1, HLt⟩ := hrel
          by_cases hend : i ≤ (D.length : Int) + 1
          · have HT : Hid (Calls Tryd.prog 20 #[.pointer (some ⟨p, 0, none⟩), .int .i64 i] wr fun e w' => e = .returned (.agg #[.int .i64 (termAt D i).1, .string (termAt D i).2.1, .int .i64 (termAt D i).2.2]) ∧ Hid (∃ G, Lt w w' p (.slice ao5 D.length cap5) D D G)) := by
              obtain ⟨G', h5⟩ := HLt.out
              exact (h5.term i (by omega)).mono fun e w' ⟨he, hb⟩ => ⟨he, G', h5.keep hb⟩
            clear HLt
            by_cases hlo : i < 1
            · have hx0 := termAt_out D i (Or.inl hlo)
              have g1 : decide (1 ≤ i) = false := by simp; omega
              have g2 : decide (i < 1) = true := by simp; omega
              rw [hx0] at HT
              go_wp2_with fail
              refine Calls.mono HT.out ?_
              rintro e w5 ⟨rfl, HG⟩
              have HG6 : Hid (∀ n, ∃ G, Lt w ((w5.alloc (.cells #[.int .i64 0, .string ⟨#[]⟩, .int .i64 0] 23)).drewN n) p (.slice ao5 D.length cap5) D D G) := by
                obtain ⟨G', h5⟩ := HG.out
                exact fun n => ⟨G', (h5.keep (below_box _ _)).keep ⟨rfl, rfl, rfl, Nat.le_refl _, fun _ _ => rfl⟩⟩
              clear HT HG
              go_wp2_with fail
              go_quiet (fail)
              go_wp2_with fail
              go_roundw
              case rel => exact ⟨i + 1, by go_num, by omega, by omega, HG6.out _⟩
              case measure => simp [intOf]; omega
            · by_cases hhi : i ≤ (D.length : Int)
              · obtain ⟨j, hij⟩ : ∃ j : Nat, i - 1 = (j : Int) := ⟨(i - 1).toNat, by omega⟩
                have hj : j < D.length := by omega
                have hti : termAt D i = D[j] := by
                  have := termAt_in D j hj
                  rw [show (j : Int) + 1 = i by omega] at this
                  exact this
                obtain ⟨gb, rfl⟩ := Hao5.out (by omega)
                rw [hti] at HT
                have g1 : 1 ≤ i := by omega
                have g2 : decide (i < 1) = false := by simp; omega
                have g4 : decide ((D.length : Int) < i) = false := by simp; omega
                have hjI : (j : Int) < (D.length : Int) := by omega
                have hwr : IntKind.i64.wrap (j : Int) = (j : Int) := by rw [IntKind.wrap_i64]; omega
                clear hti
                go_wp2_with fail
                refine Calls.mono HT.out ?_
                rintro e w5 ⟨rfl, HG⟩
                have HS : Hid (∀ W, (∃ G, Lt w W p (.slice (some ⟨gb, 0, none⟩) D.length cap5) D D G) → W.heap[w5.heap.size]? = some (.cells #[.int .i64 D[j].1, .string D[j].2.1, .int .i64 D[j].2.2] 23 (0, 0)) → (W.cell? ⟨w5.heap.size, 0, none⟩ = some (.int .i64 D[j].1) ∧ W.cell? ⟨w5.heap.size, 1, none⟩ = some (.string D[j].2.1) ∧ W.cell? ⟨w5.heap.size, 2, none⟩ = some (.int .i64 D[j].2.2)) ∧ W.cell? ⟨gb, j * 3, none⟩ = some (.int .i64 D[j].1) ∧ W.cell? ⟨gb, j * 3 + 1, none⟩ = some (.string D[j].2.1) ∧ W.cell? ⟨gb, j * 3 + 2, none⟩ = some (.int .i64 D[j].2.2)) := fun W hW hx => by
                  obtain ⟨G', h5⟩ := hW
                  exact ⟨⟨by rw [cell_of_row W _ 0 _ _ _ hx]; rfl, by rw [cell_of_row W _ 1 _ _ _ hx]; rfl, by rw [cell_of_row W _ 2 _ _ _ hx]; rfl⟩, row_cell h5.row j hj⟩
                have HG6 : Hid ((∃ G, Lt w (w5.alloc (.cells #[.int .i64 D[j].1, .string D[j].2.1, .int .i64 D[j].2.2] 23)) p (.slice (some ⟨gb, 0, none⟩) D.length cap5) D D G) ∧ (w5.alloc (.cells #[.int .i64 D[j].1, .string D[j].2.1, .int .i64 D[j].2.2] 23)).heap[w5.heap.size]? = some (.cells #[.int .i64 D[j].1, .string D[j].2.1, .int .i64 D[j].2.2] 23 (0, 0))) := by
                  obtain ⟨G', h5⟩ := HG.out
                  exact ⟨⟨G', h5.keep (below_box _ _)⟩, heap_alloc_new _ _⟩
                have HX : Hid (∃ G, Lt w (w5.alloc (.cells #[.int .i64 D[j].1, .string D[j].2.1, .int .i64 D[j].2.2] 23)) p (.slice (some ⟨gb, 0, none⟩) D.length cap5) D D G) := HG6.out.1
                obtain ⟨⟨x0, x1, x2⟩, n0, n1, n2⟩ := HS.out _ HG6.out.1 HG6.out.2
                have HQ := eqM_self D[j]
                clear HT HG HS HG6
                generalize D[j] = x at *
                go_wp2_with fail
                generalize w5.alloc (.cells #[.int .i64 x.1, .string x.2.1, .int .i64 x.2.2] 23) = X at *
                have k0 := cell_regrown x0
                have k1 := cell_regrown x1
                have k2 := cell_regrown x2
                have k3 := cell_regrown n0
                have k4 := cell_regrown n1
                have k5 := cell_regrown n2
                have cE : ∀ d os, Calls Tryd.prog 14 #[.agg #[.int .i64 x.1, .string x.2.1, .int .i64 x.2.2], .agg #[.int .i64 x.1, .string x.2.1, .int .i64 x.2.2]] (Sort.grow (redrawn X d) os) fun e w'' => e = .returned (.bool true) ∧ ∃ p : Regrown, w'' = Sort.grow (redrawn X p.d) p.os := fun d os => Calls.regrown_of (by
                  have h := eqRef_any x.1 x.1 x.2.2 x.2.2 x.2.1 x.2.1 (Sort.grow (redrawn X d) os)
                  have hq : eqT x.1 x.2.1 x.2.2 x.1 x.2.1 x.2.2 = true := HQ
                  rw [hq] at h
                  exact h)
                have g5 : decide (i < 1) = false := by simp; omega
                have g6 : decide ((D.length : Int) < i) = false := by simp; omega
                refine wp_region_quiet_below (by kernel_rfl) (by kernel_rfl) ?_
                repeat (quiet_step (first | exact cE _ _))
                refine wpQuiet_nil ?_
                intro _ hw'
                obtain ⟨⟨dq, osq⟩, hw''⟩ := hw'
                subst hw''
                have HG6 : Hid (∃ G, Lt w (Sort.grow (redrawn X dq) osq) p (.slice (some ⟨gb, 0, none⟩) D.length cap5) D D G) := by
                  obtain ⟨G', h6⟩ := HX.out
                  exact ⟨G', h6.keep (below_regrown X dq osq)⟩
                go_wp2_with fail
                go_roundw
                case rel => exact ⟨i + 1, by go_num, by omega, by omega, HG6⟩
                case measure => simp [intOf]; omega
              · have hx0 := termAt_out D i (Or.inr (by omega))
                have g1 : decide (1 ≤ i) = true := by simp; omega
                have g2 : decide (i < 1) = false := by simp; omega
                have g3 : decide (i ≤ (D.length : Int)) = false := by simp; omega
                have g4 : decide ((D.length : Int) < i) = true := by simp; omega
                rw [hx0] at HT
                go_wp2_with fail
                refine Calls.mono HT.out ?_
                rintro e w5 ⟨rfl, HG⟩
                have HG6 : Hid (∀ n, ∃ G, Lt w ((w5.alloc (.cells #[.int .i64 0, .string ⟨#[]⟩, .int .i64 0] 23)).drewN n) p (.slice ao5 D.length cap5) D D G) := by
                  obtain ⟨G', h5⟩ := HG.out
                  exact fun n => ⟨G', (h5.keep (below_box _ _)).keep ⟨rfl, rfl, rfl, Nat.le_refl _, fun _ _ => rfl⟩⟩
                clear HT HG
                go_wp2_with fail
                go_quiet (fail)
                go_wp2_with fail
                go_roundw
                case rel => exact ⟨i + 1, by go_num, by omega, by omega, HG6.out _⟩
                case measure => simp [intOf]; omega
          · obtain ⟨G', h5⟩ := HLt.out
            have hb5 := h5.below
            clear HLt h5
            have HI : Hid (∀ W, Calls Tryd.prog 18 #[.pointer none, .agg #[.int .i64 3, .string ⟨#[]⟩, .int .i64 0]] W fun e w' => e = .returned (.int .i64 0) ∧ Below W.heap.size W w') := fun W => id_nil (3, ⟨#[]⟩, 0) W
            go_wp2_with (first
              | (go_at_call 18; refine (HI.out _).mono ?_; rintro e w6 ⟨rfl, hb6⟩)
              | (go_at_call 19; refine (len_nil _).mono ?_; rintro e w' ⟨rfl, hw⟩; have hw' := hw.symm; subst hw'; clear hw))
            go_ret
            exact ⟨rfl, hb5.trans (hb6.mono hb5.size)⟩
end Go.Proofs.YtcmjfgjnemifbaaDoor

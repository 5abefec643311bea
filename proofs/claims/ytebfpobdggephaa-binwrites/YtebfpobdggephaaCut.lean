/- The walk of the law BinCut. -/
import Derived.Test.YtebfpobdggephaaTight
namespace Go.Proofs.Ytebfpobdggephaa
open Go.RowKit

/- the plain side: numbers one behind the other, cut -/
def ati (z : List Int) (j : Nat) : Int := z.getD j 0
def encs (z : List Int) : Nat → List UInt8
  | 0 => []
  | k + 1 => encs z k ++ enc (ati z k)
theorem encs_le (z : List Int) : ∀ k, (encs z k).length ≤ 10 * k
  | 0 => by simp [encs]
  | k + 1 => by have := encs_le z k; have := enc_le (ati z k); simp only [encs, List.length_append]; omega
theorem encs_pre (z : List Int) (i : Nat) : ∀ d, ∃ r, encs z (i + d) = encs z i ++ r
  | 0 => ⟨[], by simp⟩
  | d + 1 => by
    obtain ⟨r, hr⟩ := encs_pre z i d
    exact ⟨r ++ enc (ati z (i + d)), by show encs z (i + d) ++ enc (ati z (i + d)) = _; rw [hr, List.append_assoc]⟩
def cutSt (z : List Int) (m cut i : Nat) : Option (List UInt8) := if (encs z i).length ≤ cut then some (((encs z m).take cut).drop (encs z i).length) else none
theorem cut_step (z : List Int) (m cut i : Nat) (hz : -9223372036854775808 ≤ ati z i ∧ ati z i ≤ 9223372036854775807) (hi : i < m) :
    rNum (cutSt z m cut i) = (if (encs z (i + 1)).length ≤ cut then ati z i else 0, cutSt z m cut (i + 1)) := by
  obtain ⟨r, hr⟩ := encs_pre z (i + 1) (m - (i + 1))
  rw [show i + 1 + (m - (i + 1)) = m by omega] at hr
  have he : encs z (i + 1) = encs z i ++ enc (ati z i) := rfl
  unfold cutSt
  by_cases h1 : (encs z (i + 1)).length ≤ cut
  · have h0 : (encs z i).length ≤ cut := by rw [he, List.length_append] at h1; omega
    rw [if_pos h0, if_pos h1, if_pos h1]
    have e : ((encs z m).take cut).drop (encs z i).length = enc (ati z i) ++ ((encs z m).take cut).drop (encs z (i + 1)).length := by
      rw [hr, List.take_append, List.take_of_length_le h1]
      rw [List.drop_left, he, List.append_assoc, List.drop_left]
    rw [e, rNum_enc _ _ hz.1 hz.2]
  · rw [if_neg h1, if_neg h1]
    by_cases h0 : (encs z i).length ≤ cut
    · rw [if_pos h0]
      have e : ((encs z m).take cut).drop (encs z i).length = (enc (ati z i)).take (cut - (encs z i).length) := by
        rw [hr, List.take_append, Nat.sub_eq_zero_of_le (by omega), List.take_zero, List.append_nil, he, List.take_append, List.take_of_length_le h0, List.drop_left]
      rw [e]
      have hn := num_cut (ati z i) (cut - (encs z i).length) hz.1 hz.2 (by rw [he, List.length_append] at h1; omega)
      simp [rNum, hn]
    · rw [if_neg h0]; rfl
theorem cut_some (z : List Int) (m cut i : Nat) (h : (encs z (i + 1)).length ≤ cut) : (cutSt z m cut (i + 1)).isSome = true := by unfold cutSt; rw [if_pos h]; rfl
theorem cut_none (z : List Int) (m cut i : Nat) (h : ¬ (encs z (i + 1)).length ≤ cut) : (cutSt z m cut (i + 1)).isSome = false := by unfold cutSt; rw [if_neg h]; rfl
theorem cut_start (z : List Int) (m cut : Nat) : cutSt z m cut 0 = some ((encs z m).take cut) := by
  unfold cutSt
  rw [if_pos (by simp [encs])]
  simp [encs]

def endsV (z : List Int) (k : Nat) : List Value := (List.range k).map fun j => .int .i64 ((encs z (j + 1)).length : Int)
theorem endsV_succ (z : List Int) (k : Nat) : endsV z (k + 1) = endsV z k ++ [.int .i64 ((encs z (k + 1)).length : Int)] := by
  simp [endsV, List.range_succ]
theorem endsV_len (z : List Int) (k : Nat) : (endsV z k).length = k := by simp [endsV]
theorem endsV_at (z : List Int) (k j : Nat) (h : j < k) : (endsV z k)[j]? = some (.int .i64 ((encs z (j + 1)).length : Int)) := by
  simp [endsV, h]

/- memory: a row of another type beside a writer -/
theorem own_wrote {w w' : World} {base b B e : Nat} {v vv : Value} {n : Nat} {xs : List Value} {bs : List UInt8} (h : w.ownsRow base e 1 v n xs) (hW : Wr w 27 b B vv bs) (hw : Wrote w w' B vv.ownBlock) (h27 : e ≠ 27) (h5 : e ≠ 5) : w'.ownsRow base e 1 v n xs := by
  obtain ⟨h1, h2⟩ := h
  refine ⟨h1, ?_⟩
  rcases h2 with h2 | ⟨g, cap, cur, e1, e2, e3, e4⟩
  · exact Or.inl h2
  · refine Or.inr ⟨g, cap, cur, e1, e2, ?_, e4⟩
    rw [hw.block g (lt_of_block e3) (fun e' => ?_) (fun e' => ?_)]
    · exact e3
    · subst e'
      have := hW.1
      rw [e3] at this
      simp at this
      exact h27 this.2
    · rcases hW.2.2 with ⟨rfl, _⟩ | ⟨g', cap', cur', rfl, _, e3', _⟩
      · simp [Value.ownBlock] at e'
      · simp [Value.ownBlock] at e'
        subst e'
        rw [e3] at e3'
        simp at e3'
        exact h5 e3'.2
theorem wr_grown {w w' : World} {base b B e : Nat} {v vv : Value} {n : Nat} {xs : List Value} {bs : List UInt8} (hW : Wr w 27 b B vv bs) (h : w.ownsRow base e 1 v n xs) (hg : w.grownBy w' v.ownBlock) (h27 : e ≠ 27) (h5 : e ≠ 5) : Wr w' 27 b B vv bs := by
  have hne : ∀ k o, w.heap[k]? = some o → (∀ cur, o ≠ .cells cur e (0, 0)) → some k ≠ v.ownBlock := by
    intro k o hk ho e'
    rcases h.2 with ⟨rfl, _⟩ | ⟨g, cap, cur, rfl, _, e3, _⟩
    · simp [Value.ownBlock] at e'
    · simp [Value.ownBlock] at e'
      subst e'
      rw [hk] at e3
      exact ho cur (by simpa using e3)
  refine ⟨?_, hW.2.1, ?_⟩
  · rw [hg.block B hW.lt (hne B _ hW.1 (fun cur e' => by simp at e'; exact h27 e'.2.symm))]
    exact hW.1
  · rcases hW.2.2 with h2 | ⟨g, cap, cur, e1, e2, e3, e4⟩
    · exact Or.inl h2
    · refine Or.inr ⟨g, cap, cur, e1, e2, ?_, e4⟩
      rw [hg.block g (lt_of_block e3) (hne g _ e3 (fun cur e' => by simp at e'; exact h5 e'.2.symm))]
      exact e3
theorem wr_below {w w' : World} {b B : Nat} {vv : Value} {bs : List UInt8} (hW : Wr w 27 b B vv bs) (hb : Below w.heap.size w w') : Wr w' 27 b B vv bs := by
  refine ⟨by rw [hb.block B hW.lt]; exact hW.1, hW.2.1, ?_⟩
  rcases hW.2.2 with h2 | ⟨g, cap, cur, e1, e2, e3, e4⟩
  · exact Or.inl h2
  · exact Or.inr ⟨g, cap, cur, e1, e2, by rw [hb.block g (lt_of_block e3)]; exact e3, e4⟩
theorem own_below {w w' : World} {base e : Nat} {v : Value} {n : Nat} {xs : List Value} (h : w.ownsRow base e 1 v n xs) (hb : Below w.heap.size w w') : w'.ownsRow base e 1 v n xs := by
  obtain ⟨h1, h2⟩ := h
  refine ⟨h1, ?_⟩
  rcases h2 with h2 | ⟨g, cap, cur, e1, e2, e3, e4⟩
  · exact Or.inl h2
  · exact Or.inr ⟨g, cap, cur, e1, e2, by rw [hb.block g (lt_of_block e3)]; exact e3, e4⟩

theorem own_shape3 {w : World} {base n e : Nat} {v : Value} {xs : List Value} (h : w.ownsRow base e 1 v n xs) (hp : 0 < n) : ∃ g cap, v = .slice (some ⟨g, 0, none⟩) n cap ∧ base ≤ g ∧ n ≤ cap ∧ cap ≤ maxLen := by
  rcases h.2 with ⟨_, e⟩ | ⟨g, cap, cur, e1, e2, e3, e4, e5, _⟩
  · omega
  · exact ⟨g, cap, e1, e2, e4, e5⟩

theorem own_len {w : World} {base n e : Nat} {v : Value} {xs : List Value} (h : w.ownsRow base e 1 v n xs) : ∃ ao cap, v = .slice ao n cap := by
  rcases h.2 with ⟨e1, e2⟩ | ⟨g, cap, cur, e1, _⟩
  · exact ⟨none, 0, by rw [e1, e2]⟩
  · exact ⟨_, _, e1⟩
theorem own_rd {w w' : World} {base e B T : Nat} {v : Value} {n : Nat} {xs : List Value} {st : Option (List UInt8)} (h : w.ownsRow base e 1 v n xs) (hR : Rd w T B st) (hg : w.grownBy w' (some B)) (hT : e ≠ T) : w'.ownsRow base e 1 v n xs := by
  obtain ⟨h1, h2⟩ := h
  refine ⟨h1, ?_⟩
  rcases h2 with h2 | ⟨g, cap, cur, e1, e2, e3, e4⟩
  · exact Or.inl h2
  · refine Or.inr ⟨g, cap, cur, e1, e2, ?_, e4⟩
    rw [hg.block g (lt_of_block e3) (fun e' => ?_)]
    · exact e3
    · simp at e'
      subst e'
      obtain ⟨u, hB, _⟩ := hR
      rw [e3] at hB
      simp at hB
      exact hT hB.2

theorem Try.info3 : (Try.prog.info? 3).map (fun i => (i.zero, i.size, i.bytes)) = some (some (.int .i64 0), 1, 8) := by kernel_rfl

set_option maxHeartbeats 2000000 in
theorem binCut_any (ao : Option Addr) (len cap : Nat) (z : List Int) (c : Int) (w : World) (hrow : 0 < len → ∃ b off, ao = some ⟨b, off, none⟩ ∧ ∀ j, j < len → w.cell? ⟨b, off + j, none⟩ = some (.int .i64 (ati z j)))
    (hz : ∀ j, -9223372036854775808 ≤ ati z j ∧ ati z j ≤ 9223372036854775807) (hlen : len ≤ maxLen) :
    Calls Try.prog 7 #[.slice ao len cap, .int .i64 c] w fun e w' => e = .returned (.bool true) ∧ Below w.heap.size w w' := by
  unfold maxLen at hlen
  obtain ⟨i5, hi, hz0, hz1, hz2⟩ := info_parts Try.info3
  have HR : Hid (0 < len → ∃ b off, ao = some ⟨b, off, none⟩ ∧ ∀ j, j < len → w.cell? ⟨b, off + j, none⟩ = some (.int .i64 (ati z j))) := hrow
  have HZ : Hid (∀ j, -9223372036854775808 ≤ ati z j ∧ ati z j ≤ 9223372036854775807) := hz
  clear hrow hz
  go_enter Try.func7, Try.ntmps7
  go_wp2_with (first
    | (go_at_call 8; refine (begun_any _).mono ?_; rintro e wa ⟨rfl, hba⟩))
  have hW0 := wr_new wa
  have hb0 : Below w.heap.size w (wa.alloc (.cells #[.slice none 0 0] 27)) := hba.alloc hba.size _
  have hBw := hba.size
  have hW0' : Wr (wa.alloc (.cells #[.slice none 0 0] 27)) 27 w.heap.size wa.heap.size (.slice none 0 0) [] := ⟨hW0.1, own_mono hW0.2 hBw⟩
  clear hW0 hba
  go_loopw [7, 8] (fun ve i wr => ∃ (k : Nat) (vv : Value), k ≤ len ∧ k ≤ 20 ∧ i = .int .i64 k ∧ Wr wr 27 w.heap.size wa.heap.size vv (encs z k) ∧ wr.ownsRow w.heap.size 3 1 ve k (endsV z k) ∧ Below w.heap.size w wr) (fun _ i _ => 20 - (intOf i).toNat)
  case atStart => exact ⟨0, _, Nat.zero_le _, Nat.zero_le _, rfl, hW0', World.ownsRow_nil _ _ _ _, hb0⟩
  case round =>
    clear hW0' hb0
    obtain ⟨k, vv, hkl, hk20, rfl, hWr, hE, hb⟩ := hrel
    have hsz := hb.size
    by_cases hlt : k < len ∧ k < 20
    · obtain ⟨hlt, hlt2⟩ := hlt
      obtain ⟨b, off, rfl, hc⟩ := HR.out (by omega)
      have hcx := (hb.cell (p := ⟨b, off + k, none⟩) (cell_lt (hc k hlt))).trans (hc k hlt)
      have hzk := HZ.out k
      have hel := encs_le z k
      clear HR hc
      go_wp2_with fail
      refine (wnum_any _ _ _ _ _ _ hWr hsz hzk.1 hzk.2 (by omega)).mono ?_
      rintro e w1 ⟨rfl, v1, hW1, hw1, hm1⟩
      have hE1 := own_wrote hE hWr hw1 (by decide) (by decide)
      have hb1 := hb.trans (hw1.below hsz hBw (fun k hk => (hWr.2.lt k hk).1))
      have hW1' : Wr w1 27 w.heap.size wa.heap.size v1 (encs z (k + 1)) := hW1
      have hel1 := encs_le z (k + 1)
      clear hW1 hw1 hm1 hE hWr hb
      go_wp2_with fail
      refine (wbytes_any _ _ _ _ _ hW1' (by omega)).mono ?_
      rintro e w2 ⟨v2, rfl, hO2, hb2⟩
      have hE2 := own_below hE1 hb2
      have hW2 := wr_below hW1' hb2
      have hbb2 := hb1.trans (hb2.mono hb1.size)
      have hsz2 := hbb2.size
      obtain ⟨ao2, cap2, rfl, _, _⟩ := (Sl.of_own hO2).shape
      clear hO2 hb2 hW1' hE1 hb1 hcx
      go_wp2_with (at_builtin; refine wpList_append_own_at _ rfl (.tmp 34) (.tmp 38) 42 rfl w.heap.size 3 i5 (.int .i64 0) 1 8 Try.underlying42 hi hz0 hz1 hz2 rfl (by decide) u7 k (endsV z k) rfl (hE2.alloc _) ⟨w2.heap.size, 0, none⟩ 1 1 [_] rfl rfl (cell_one_new _ _ _) (fun u hu => by simp at hu; subst hu; rfl) (by simp only [maxLen]; omega) (by omega) (by simp; omega) ?_)
      intro v' w3 hown' hgrow _ _
      have hW3 : Wr w3 27 w.heap.size wa.heap.size v1 (encs z (k + 1)) := wr_grown (wr_below hW2 ((Below.refl _ _).alloc (Nat.le_refl _) _)) (hE2.alloc _) hgrow (by decide) (by decide)
      have hb3 : Below w.heap.size w w3 := (hbb2.alloc hsz2 _).grown hgrow (by simp; omega) (fun k hk => (hE2.lt k hk).1)
      rw [← endsV_succ] at hown'
      obtain ⟨g', cap', rfl, _, _, _⟩ := own_shape3 hown' (by omega)
      clear hgrow hE2 hW2 hbb2
      go_wp2
      go_roundw
      case rel => exact ⟨k + 1, v1, by omega, by omega, by go_num, hW3, hown', hb3⟩
      case measure => simp [intOf]; omega
    · have hel := encs_le z k
      rcases (show ¬ k < len ∨ (k < len ∧ ¬ k < 20) by omega) with h1 | ⟨h1, h2⟩
      all_goals
        clear hlt
        go_wp2_with fail
        refine (wbytes_any _ _ _ _ _ hWr (by omega)).mono ?_
        rintro e w2 ⟨v2, rfl, hO2, hb2⟩
        have hE2 := own_below hE hb2
        have hbb2 := hb.trans (hb2.mono hsz)
        have hsz2 := hbb2.size
        have hS2 := Sl.of_own hO2
        obtain ⟨ao2, cap2, rfl, hc21, hc22⟩ := hS2.shape
        clear hO2 hb2 hWr hE hb
        by_cases hcut : 0 ≤ c ∧ c ≤ (encs z k).length
        · obtain ⟨hc0, hc1⟩ := hcut
          obtain ⟨cut, rfl⟩ := Int.eq_ofNat_of_zero_le hc0
          have hST := hS2.take cut (by omega)
          have hci : (cut : Int) ≤ cap2 := by omega
          go_wp2_with fail
          refine (read_any _ _ _ hST (by rw [List.length_take]; omega)).mono ?_
          rintro e w3 ⟨R, rfl, hRB, hR3, hb3⟩
          have hE3 := own_below hE2 hb3
          have hbb3 := hbb2.trans (hb3.mono hsz2)
          have hRw : w.heap.size ≤ R := Nat.le_trans hsz2 hRB
          rw [← cut_start z k cut] at hR3
          clear hS2 hST hE2 hbb2 hb3 hRB
          obtain ⟨aoE, capE, rfl⟩ := own_len hE3
          go_wp2_with fail
          go_loopw [11] (fun i wr => ∃ j : Nat, j ≤ k ∧ i = .int .i64 j ∧ Rd wr 54 R (cutSt z k cut j) ∧ wr.ownsRow w.heap.size 3 1 (.slice aoE k capE) k (endsV z k) ∧ Below w.heap.size w wr) (fun i _ => k - (intOf i).toNat)
          case atStart => exact ⟨0, Nat.zero_le _, rfl, hR3, hE3, hbb3⟩
          case round =>
            clear hR3 hE3 hbb3
            obtain ⟨j, hjk, rfl, hRd, hE, hb⟩ := hrel
            by_cases hj : j < k
            · obtain ⟨gE, capE', eE, _, _, _⟩ := own_shape3 hE (by omega)
              simp only [Value.slice.injEq] at eE
              obtain ⟨rfl, _, rfl⟩ := eE
              obtain ⟨b, off, rfl, hc⟩ := HR.out (by omega)
              have hzj := HZ.out j
              have HS : Hid (_) := cut_step z k cut j hzj hj
              go_wp2_with fail
              refine (rnum_is R _ _ _ _ hRd HS.out).mono ?_
              rintro e w4 ⟨rfl, hR4, hg4⟩
              have hE4 := own_rd hE hRd hg4 (by decide)
              have hb4 := hb.trans (Below.of_grown hg4 hb.size hRw)
              have hcx := (hb4.cell (p := ⟨b, off + j, none⟩) (cell_lt (hc j (by omega)))).trans (hc j (by omega))
              have hex := hE4.cellAt j (by omega)
              rw [endsV_at z k j hj] at hex
              clear hg4 hE hRd hb HS hc
              by_cases hle : (encs z (j + 1)).length ≤ cut
              · have hok := cut_some z k cut j hle
                have hle' : ((encs z (j + 1)).length : Int) ≤ (cut : Int) := by omega
                have hxx : (ati z j != ati z j) = false := by simp
                rw [if_pos hle]
                go_wp2_with (go_at_call 20; refine (ok_any R _ _ hR4).mono ?_; rintro e w' ⟨rfl, hw⟩; have hw' := hw.symm; subst hw')
                go_roundw
                case rel => exact ⟨j + 1, by omega, by go_num, hR4, hE4, hb4⟩
                case measure => simp [intOf]; omega
              · have hok := cut_none z k cut j hle
                have hle' : ¬ ((encs z (j + 1)).length : Int) ≤ (cut : Int) := by omega
                have hle2 : (cut : Int) < ((encs z (j + 1)).length : Int) := by omega
                rw [if_neg hle]
                go_wp2_with (go_at_call 20; refine (ok_any R _ _ hR4).mono ?_; rintro e w' ⟨rfl, hw⟩; have hw' := hw.symm; subst hw')
                go_roundw
                case rel => exact ⟨j + 1, by omega, by go_num, hR4, hE4, hb4⟩
                case measure => simp [intOf]; omega
            · go_wp2
              go_ret
              exact ⟨rfl, hb⟩
        · rcases (show c < 0 ∨ (¬ c < 0 ∧ ((encs z k).length : Int) < c) by omega) with hc0 | ⟨hc0, hc1⟩
          all_goals
            clear hcut
            go_wp2
            go_ret
            exact ⟨rfl, hbb2⟩
end Go.Proofs.Ytebfpobdggephaa

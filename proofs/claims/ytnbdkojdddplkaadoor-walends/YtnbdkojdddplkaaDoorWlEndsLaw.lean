/- The walk of the law WalEnds. -/
import Derived.Test.YtnbdkojdddplkaaDoorWlEnds
namespace Go.Proofs.YtnbdkojdddplkaaDoor.Wl
open Go.RowKit Dk

theorem room_M : roomN 1048576 = 1048576 := by decide
theorem openS_empty (R : Int) : openS ⟨R, [], []⟩ = ⟨R, [], []⟩ := by
  have hf : fileOf (⟨R, [], []⟩ : St) nmW = [] := rfl
  unfold openS
  rw [hf, Fr.scan_nil]
  rfl
/-- A new disk and a log on it. -/
theorem fresh_any {w0 w1 : World} (hb1 : Below w0.heap.size w0 w1) (hT : ∀ u, Below w0.heap.size w0 u → Fr.Tab u) (hw0 : 0 < w0.heap.size) : Calls Tryd.prog 10 #[.int .i64 1048576] w1 fun e w2 => ∃ pd, e = .returned (.pointer (some ⟨pd, 0, none⟩)) ∧ Hid (Calls Tryd.prog 11 #[.pointer (some ⟨pd, 0, none⟩)] w2 fun e w3 => ∃ p, e = .returned (.tuple #[.pointer (some ⟨p, 0, none⟩), .int .i64 0]) ∧ Hid (GD w0 w3 p pd ⟨1048576, [], []⟩ 0 [])) := by
  refine (new_any 1048576 w1).mono ?_
  rintro e w2 ⟨rfl, hD2, hb2⟩
  rw [room_M] at hD2
  refine ⟨_, rfl, ?_⟩
  have hs1 := hb1.size
  have hb2' : Below w0.heap.size w0 w2 := hb1.trans (hb2.mono hs1)
  have hf : fileOf (⟨1048576, [], []⟩ : St) nmW = [] := rfl
  refine (GD.open (w0 := w0) ⟨_, hD2, fun j hj => ?_, hb2'⟩ hT hw0 (by simp [St.mass, Dk.mass, wmass]) (fun f hf => by simp [St.now, Dk.run] at hf) (by rw [hf]; decide) (by simp [St.now, Dk.run]) 0 [] (by rw [hf, Fr.scan_nil]; rfl)).mono ?_
  · rcases hj with hh | hh
    · exact hh.elim
    · omega
  · rintro e w3 ⟨p, rfl, hG, _⟩
    rw [openS_empty] at hG
    exact ⟨p, rfl, hG⟩
theorem Gs_empty : Gs ⟨1048576, [], []⟩ 0 [] 0 1 := ⟨rfl, Or.inl ⟨rfl, rfl⟩, by simp [St.mass, Dk.mass, wmass], by simp, by simp, by simp⟩

set_option maxHeartbeats 4000000 in
set_option maxRecDepth 20000 in
theorem walEnds_any (first n fm un : Int) (w : World) (ht : Fr.Tab w) : Calls Tryd.prog 8 #[.int .i64 first, .int .i64 n, .int .i64 fm, .int .i64 un] w fun e w' => e = .returned (.bool true) ∧ Below w.heap.size w w' := by
  have hw0 : 0 < w.heap.size := cell_lt (ht 0 (by omega))
  have HB : Hid (_) := begun_any w ht
  have HT : Hid (∀ u, Below w.heap.size w u → Fr.Tab u) := fun u hb => ht.below hb
  by_cases hbad : first < 1 ∨ 1099511627776 < first ∨ n < 1 ∨ 60 < n ∨ fm < 0 ∨ 70 < fm ∨ un < 0 ∨ 70 < un
  · by_cases b1 : first < 1
    · go_enter Tryd.func8, Tryd.ntmps8
      go_wp2_with (go_at_call 9; refine Calls.mono HB.out ?_; rintro e w1 ⟨rfl, hb1⟩)
      go_ret
      exact ⟨rfl, hb1⟩
    by_cases b2 : 1099511627776 < first
    · go_enter Tryd.func8, Tryd.ntmps8
      go_wp2_with (go_at_call 9; refine Calls.mono HB.out ?_; rintro e w1 ⟨rfl, hb1⟩)
      go_ret
      exact ⟨rfl, hb1⟩
    by_cases b3 : n < 1
    · go_enter Tryd.func8, Tryd.ntmps8
      go_wp2_with (go_at_call 9; refine Calls.mono HB.out ?_; rintro e w1 ⟨rfl, hb1⟩)
      go_ret
      exact ⟨rfl, hb1⟩
    by_cases b4 : 60 < n
    · go_enter Tryd.func8, Tryd.ntmps8
      go_wp2_with (go_at_call 9; refine Calls.mono HB.out ?_; rintro e w1 ⟨rfl, hb1⟩)
      go_ret
      exact ⟨rfl, hb1⟩
    by_cases b5 : fm < 0
    · go_enter Tryd.func8, Tryd.ntmps8
      go_wp2_with (go_at_call 9; refine Calls.mono HB.out ?_; rintro e w1 ⟨rfl, hb1⟩)
      go_ret
      exact ⟨rfl, hb1⟩
    by_cases b6 : 70 < fm
    · go_enter Tryd.func8, Tryd.ntmps8
      go_wp2_with (go_at_call 9; refine Calls.mono HB.out ?_; rintro e w1 ⟨rfl, hb1⟩)
      go_ret
      exact ⟨rfl, hb1⟩
    by_cases b7 : un < 0
    · go_enter Tryd.func8, Tryd.ntmps8
      go_wp2_with (go_at_call 9; refine Calls.mono HB.out ?_; rintro e w1 ⟨rfl, hb1⟩)
      go_ret
      exact ⟨rfl, hb1⟩
    · have b8 : 70 < un := by omega
      go_enter Tryd.func8, Tryd.ntmps8
      go_wp2_with (go_at_call 9; refine Calls.mono HB.out ?_; rintro e w1 ⟨rfl, hb1⟩)
      go_ret
      exact ⟨rfl, hb1⟩
  have a1 : ¬ first < 1 := by omega
  have a2 : ¬ 1099511627776 < first := by omega
  have a3 : ¬ n < 1 := by omega
  have a4 : ¬ 60 < n := by omega
  have a5 : ¬ fm < 0 := by omega
  have a6 : ¬ 70 < fm := by omega
  have a7 : ¬ un < 0 := by omega
  have a8 : ¬ 70 < un := by omega
  clear hbad
  obtain ⟨N, rfl⟩ : ∃ N : Nat, n = (N : Int) := ⟨n.toNat, by omega⟩
  obtain ⟨Fm, rfl⟩ : ∃ Fm : Nat, fm = (Fm : Int) := ⟨fm.toNat, by omega⟩
  obtain ⟨Un, rfl⟩ : ∃ Un : Nat, un = (Un : Int) := ⟨un.toNat, by omega⟩
  have HN : Hid (∀ w1, Below w.heap.size w w1 → Calls Tryd.prog 10 #[.int .i64 1048576] w1 fun e w2 => ∃ pd, e = .returned (.pointer (some ⟨pd, 0, none⟩)) ∧ Hid (Calls Tryd.prog 11 #[.pointer (some ⟨pd, 0, none⟩)] w2 fun e w3 => ∃ p, e = .returned (.tuple #[.pointer (some ⟨p, 0, none⟩), .int .i64 0]) ∧ Hid (EN w w3 p pd first 0))) := by
    intro w1 hb1
    refine (fresh_any hb1 HT.out hw0).mono ?_
    rintro e w2 ⟨pd, rfl, h2⟩
    refine ⟨pd, rfl, h2.out.mono ?_⟩
    rintro e w3 ⟨p, rfl, h3⟩
    exact ⟨p, rfl, _, h3.out, Gs_empty⟩
  clear ht
  go_enter Tryd.func8, Tryd.ntmps8
  go_wp2_with (first
    | (go_at_call 9; refine Calls.mono HB.out ?_; rintro e w1 ⟨rfl, hb1⟩; have HN1 : Hid (_) := HN.out w1 hb1; clear HN hb1)
    | (go_at_call 10; refine Calls.mono HN1.out ?_; rintro e w2 ⟨pd, rfl, HN2⟩; clear HN1)
    | (go_at_call 11; refine Calls.mono HN2.out ?_; rintro e w3 ⟨p, rfl, HN3⟩; clear HN2))
  go_loopw [13] (fun vi wr => ∃ k : Nat, k ≤ N ∧ vi = .int .i64 (k : Int) ∧ Hid (EN w wr p pd first k)) (fun vi _ => N - (intOf vi).toNat)
  case atStart => exact ⟨0, Nat.zero_le _, rfl, HN3.out⟩
  case round =>
    obtain ⟨k, hk, rfl, HK⟩ := hrel
    clear HN3
    by_cases hlt : k < N
    · have hlt' : (k : Int) < (N : Int) := by omega
      have HS : Hid (_) := EN.step HK.out HT.out (by omega) (by omega) (by omega)
      have hk60 : (k : Int) < 60 := by omega
      clear HK
      go_wp2_with (go_at_call 14; refine Calls.mono HS.out ?_; rintro e w5 ⟨rfl, HX5⟩)
      go_roundw
      case rel => exact ⟨k + 1, by omega, by go_num, HX5.out⟩
      case measure => simp [intOf]; omega
    · obtain rfl : k = N := by omega
      obtain ⟨E0, hE0, HE⟩ : ∃ E0 : Int, ((1 ≤ first + (Un : Int) - 1 ∧ E0 = 0) ∨ (¬ 1 ≤ first + (Un : Int) - 1 ∧ E0 = 1)) ∧ Hid (Calls Tryd.prog 15 #[.pointer (some ⟨p, 0, none⟩), .int .i64 (first + Fm)] wr fun e w1 => e = .returned (.int .i64 0) ∧ Hid (Calls Tryd.prog 16 #[.pointer (some ⟨p, 0, none⟩), .int .i64 (first + Un - 1)] w1 fun e w2 => e = .returned (.int .i64 E0) ∧ Hid (Calls Tryd.prog 17 #[.pointer (some ⟨p, 0, none⟩)] w2 fun e w3 => e = .returned (.tuple #[]) ∧ Hid (Calls Tryd.prog 18 #[.pointer (some ⟨pd, 0, none⟩), .int .i64 (-1), .int .i64 0] w3 fun e w4 => ∃ q, e = .returned (.pointer (some ⟨q, 0, none⟩)) ∧ Hid (Calls Tryd.prog 11 #[.pointer (some ⟨q, 0, none⟩)] w4 fun e w5 => ∃ r, e = .returned (.tuple #[.pointer (some ⟨r, 0, none⟩), .int .i64 0]) ∧ Hid (EF w w5 r q first k Fm Un)))))) := by
        have HE := EN.tail (Fm := Fm) (Un := Un) HK.out HT.out hw0 (by omega) (by omega) ⟨by omega, by omega⟩ (by omega) (by omega)
        by_cases hlow : 1 ≤ first + (Un : Int) - 1
        · refine ⟨0, Or.inl ⟨hlow, rfl⟩, HE.mono ?_⟩
          rintro e w1 ⟨rfl, h1⟩
          refine ⟨rfl, h1.out.mono ?_⟩
          rintro e w2 ⟨E, rfl, hE, h2⟩
          obtain rfl : E = 0 := by omega
          exact ⟨rfl, h2⟩
        · refine ⟨1, Or.inr ⟨hlow, rfl⟩, HE.mono ?_⟩
          rintro e w1 ⟨rfl, h1⟩
          refine ⟨rfl, h1.out.mono ?_⟩
          rintro e w2 ⟨E, rfl, hE, h2⟩
          obtain rfl : E = 1 := by omega
          exact ⟨rfl, h2⟩
      clear HK hk hlt
      obtain ⟨kk, Hkk⟩ : ∃ kk, Hid (kk = kE k Fm) := ⟨_, (rfl : _ = _)⟩
      have HM : Hid (∀ (w5 : World) (r q i : Nat), EF w w5 r q first k Fm Un → ¬ (Un ≤ i ∧ i < kk) → Calls Tryd.prog 25 #[.pointer (some ⟨r, 0, none⟩), .int .i64 (first + i)] w5 fun e w' => e = .returned (.tuple #[.slice none 0 0, .bool false]) ∧ Hid (EF w w' r q first k Fm Un)) := fun w5 r q i h hi => h.miss (by omega) i (by rw [← Hkk.out]; exact hi)
      have HH : Hid (∀ (w5 : World) (r q i : Nat), EF w w5 r q first k Fm Un → (Un ≤ i ∧ i < kk) → Calls Tryd.prog 25 #[.pointer (some ⟨r, 0, none⟩), .int .i64 (first + i)] w5 fun e w' => ∃ g cap, e = .returned (.tuple #[.slice (some ⟨g, 0, none⟩) 2 cap, .bool true]) ∧ w'.cell? ⟨g, 0, none⟩ = some (.int .u8 (i : Int)) ∧ Hid (EF w w' r q first k Fm Un)) := fun w5 r q i h hi => h.hit (by omega) (by omega) (by omega) i (by rw [← Hkk.out]; exact hi)
      have HLa : Hid (∀ (w5 : World) (r q : Nat), EF w w5 r q first k Fm Un → Calls Tryd.prog 24 #[.pointer (some ⟨r, 0, none⟩)] w5 fun e w' => ∃ l : Int, e = .returned (.int .i64 l) ∧ Hid (decide (l = 0) = decide (kk ≤ Un)) ∧ Hid (Below w.heap.size w w')) := fun w5 r q h => by
        rw [Hkk.out]
        exact h.last (by omega)
      have hmin : min (k : Int) (Fm : Int) = (kk : Int) := by rw [Hkk.out]; unfold kE; omega
      have hkk : kk ≤ 60 := by rw [Hkk.out]; unfold kE; omega
      clear Hkk
      rcases hE0 with ⟨hlow, rfl⟩ | ⟨hlow, rfl⟩
      case' inl => have hl2 : ¬ (first + (Un : Int) - 1 < 1) := by omega
      case' inr => have hl2 : first + (Un : Int) - 1 < 1 := by omega
      all_goals by_cases hfk : Fm < k
      all_goals have hkk2 : (Fm < k → kk = Fm) ∧ (¬ Fm < k → kk = k) := by omega
      all_goals simp only [hfk, not_true_eq_false, not_false_eq_true, true_implies, false_implies, true_and, and_true] at hkk2
      all_goals have hkk3 := hkk2.symm
      all_goals clear hkk2
      all_goals subst hkk3
      all_goals (
        go_wp2_with (first
          | (go_at_call 15; refine Calls.mono HE.out ?_; rintro e w6 ⟨rfl, HE6⟩; clear HE)
          | (go_at_call 16; refine Calls.mono HE6.out ?_; rintro e w7 ⟨rfl, HE7⟩; clear HE6)
          | (go_at_call 17; refine Calls.mono HE7.out ?_; rintro e w8 ⟨rfl, HE8⟩; clear HE7)
          | (go_at_call 18; refine Calls.mono HE8.out ?_; rintro e w9 ⟨q, rfl, HE9⟩; clear HE8)
          | (go_at_call 11; refine Calls.mono HE9.out ?_; rintro e w10 ⟨r, rfl, HE10⟩; clear HE9))
        go_loopw [16] (fun vi wr => ∃ i : Nat, i ≤ k ∧ vi = .int .i64 (i : Int) ∧ Hid (EF w wr r q first k Fm Un)) (fun vi _ => k - (intOf vi).toNat)
        case atStart => exact ⟨0, Nat.zero_le _, rfl, HE10.out⟩
        case round =>
          obtain ⟨i, hi, rfl, HI⟩ := hrel
          clear HE10
          by_cases hlti : i < k
          · have hlti' : (i : Int) < (k : Int) := by omega
            have hi60 : (i : Int) < 60 := by omega
            by_cases hU : Un ≤ i
            · have i1 : (Un : Int) ≤ (i : Int) := by omega
              by_cases hK : (i : Int) < (Fm : Int)
              · have HC : Hid (_) := HH.out _ r q i HI.out ⟨hU, by omega⟩
                clear HI HH HM HLa
                go_wp2_with (go_at_call 25; refine Calls.mono HC.out ?_; rintro e w11 ⟨g, cap, rfl, hcell, HX⟩)
                go_roundw
                case rel => exact ⟨i + 1, by omega, by go_num, HX.out⟩
                case measure => simp [intOf]; omega
              · first
                | (exfalso; omega)
                | (have HC : Hid (_) := HM.out _ r q i HI.out (by omega)
                   clear HI HH HM HLa
                   go_wp2_with (go_at_call 25; refine Calls.mono HC.out ?_; rintro e w11 ⟨rfl, HX⟩)
                   go_roundw
                   case rel => exact ⟨i + 1, by omega, by go_num, HX.out⟩
                   case measure => simp [intOf]; omega)
            · have i1 : ¬ (Un : Int) ≤ (i : Int) := by omega
              have HC : Hid (_) := HM.out _ r q i HI.out (by omega)
              clear HI HH HM HLa
              go_wp2_with (go_at_call 25; refine Calls.mono HC.out ?_; rintro e w11 ⟨rfl, HX⟩)
              go_roundw
              case rel => exact ⟨i + 1, by omega, by go_num, HX.out⟩
              case measure => simp [intOf]; omega
          · have HC : Hid (_) := HLa.out _ r q HI.out
            clear HI HH HM HLa
            go_wp2_with (go_at_call 24; refine Calls.mono HC.out ?_; rintro e w11 ⟨l, rfl, hl, HX⟩)
            go_ret
            refine ⟨congrArg (fun b => Ending.returned (Value.bool b)) ?_, HX.out⟩
            have h1 := hl.out
            rw [decide_eq_decide] at h1
            simp
            rw [Bool.eq_iff_iff]
            simp [h1])
end Go.Proofs.YtnbdkojdddplkaaDoor.Wl

/- The walk of the law WalFull, whole. -/
import Derived.Test.YtnbdkojdddplkaaDoorWlFull
namespace Go.Proofs.YtnbdkojdddplkaaDoor.Wl
open Go.RowKit Dk

theorem sK_open (R : Int) : openS ⟨R, [], []⟩ = ⟨R, [], []⟩ := by
  have hf : fileOf (⟨R, [], []⟩ : St) nmW = [] := rfl
  unfold openS
  rw [hf, Fr.scan_nil]
  rfl
theorem room_id (R : Int) (h0 : 0 ≤ R) (h1 : R ≤ 3000) : roomN R = R := by unfold roomN; omega

set_option maxHeartbeats 4000000 in
set_option maxRecDepth 20000 in
theorem walFull_any (room size : Int) (w : World) (ht : Fr.Tab w) : Calls Tryd.prog 6 #[.int .i64 room, .int .i64 size] w fun e w' => e = .returned (.bool true) ∧ Below w.heap.size w w' := by
  have hw0 : 0 < w.heap.size := cell_lt (ht 0 (by omega))
  have HB : Hid (_) := begun_any w ht
  have HT : Hid (∀ u, Below w.heap.size w u → Fr.Tab u) := fun u hb => ht.below hb
  by_cases hr0 : room < 0
  · go_enter Tryd.func6, Tryd.ntmps6
    go_wp2_with (go_at_call 9; refine Calls.mono HB.out ?_; rintro e w1 ⟨rfl, hb1⟩)
    go_ret
    exact ⟨rfl, hb1⟩
  by_cases hr1 : 3000 < room
  · go_enter Tryd.func6, Tryd.ntmps6
    go_wp2_with (go_at_call 9; refine Calls.mono HB.out ?_; rintro e w1 ⟨rfl, hb1⟩)
    go_ret
    exact ⟨rfl, hb1⟩
  by_cases hs0 : size < 0
  · go_enter Tryd.func6, Tryd.ntmps6
    go_wp2_with (go_at_call 9; refine Calls.mono HB.out ?_; rintro e w1 ⟨rfl, hb1⟩)
    go_ret
    exact ⟨rfl, hb1⟩
  by_cases hs1 : 300 < size
  · go_enter Tryd.func6, Tryd.ntmps6
    go_wp2_with (go_at_call 9; refine Calls.mono HB.out ?_; rintro e w1 ⟨rfl, hb1⟩)
    go_ret
    exact ⟨rfl, hb1⟩
  obtain ⟨R, rfl⟩ : ∃ R : Nat, room = (R : Int) := ⟨room.toNat, by omega⟩
  obtain ⟨m, rfl⟩ : ∃ m : Nat, size = (m : Int) := ⟨size.toNat, by omega⟩
  have hR : R ≤ 3000 := by omega
  have hm : m ≤ 300 := by omega
  have HN : Hid (∀ w1, Below w.heap.size w w1 → Calls Tryd.prog 10 #[.int .i64 (R : Int)] w1 fun e w2 => ∃ pd, e = .returned (.pointer (some ⟨pd, 0, none⟩)) ∧ Hid (Calls Tryd.prog 11 #[.pointer (some ⟨pd, 0, none⟩)] w2 fun e w3 => ∃ p, e = .returned (.tuple #[.pointer (some ⟨p, 0, none⟩), .int .i64 0]) ∧ Hid (FR w w3 p pd R m 0))) := by
    intro w1 hb1
    refine (new_any (R : Int) w1).mono ?_
    rintro e w2 ⟨rfl, hD2, hb2⟩
    rw [room_id (R : Int) (by omega) (by omega)] at hD2
    refine ⟨_, rfl, ?_⟩
    have hs1 := hb1.size
    have hs2 := hb2.size
    have hb2' : Below w.heap.size w w2 := hb1.trans (hb2.mono hs1)
    have hf : fileOf (⟨(R : Int), [], []⟩ : St) nmW = [] := rfl
    refine (open_any w1.heap.size ⟨(R : Int), [], []⟩ _ w2 hD2 (HT.out w2 hb2') ?_ (by simp [St.mass, St.now, Dk.mass, wmass, Dk.run]) (fun f hf => by simp [St.now, Dk.run] at hf) (by rw [hf]; decide) 0 [] (by rw [hf, Fr.scan_nil]; rfl)).mono ?_
    · rintro (hh | hh)
      · exact hh
      · omega
    · rintro e w3 ⟨p, rfl, ⟨F', hL, hF'⟩, hf3⟩
      rw [sK_open] at hL
      refine ⟨p, rfl, ⟨(R : Int), [], []⟩, F', ⟨hL.dk, ?_, hL.np, by have := hL.new; omega⟩, rfl, rfl, by simp [St.mass, Dk.mass, wmass], fun k hk => ?_, hb2'.trans (hf3.below (fun k hk => ?_) hb2'.size), by simp [fK, dK, fileB]⟩
      · obtain ⟨vr, rs, G, a1, a2, a3⟩ := hL.lg
        exact ⟨vr, rs, G, a1, a2, fun k hk => ⟨(a3 k hk).1, by have := (a3 k hk).2; omega⟩⟩
      · rcases hF' k hk with (hh | hh) | hh
        · exact hh.elim
        · omega
        · omega
      · rcases hk with hh | hh
        · exact hh.elim
        · omega
  go_enter Tryd.func6, Tryd.ntmps6
  go_wp2_with (first
    | (go_at_call 9; refine Calls.mono HB.out ?_; rintro e w1 ⟨rfl, hb1⟩; have HN1 : Hid (_) := HN.out w1 hb1; clear HN hb1)
    | (go_at_call 10; refine Calls.mono HN1.out ?_; rintro e w2 ⟨pd, rfl, HN2⟩; clear HN1)
    | (go_at_call 11; refine Calls.mono HN2.out ?_; rintro e w3 ⟨p, rfl, HN3⟩; clear HN2))
  go_loopw [8, 9] (fun v8 v9 wr => ∃ k : Nat, k ≤ 300 ∧ v8 = .int .i64 0 ∧ v9 = .int .i64 (k : Int) ∧ Hid (FR w wr p pd R m k)) (fun _ v9 _ => 300 - (intOf v9).toNat)
  case atStart => exact ⟨0, Nat.zero_le _, rfl, rfl, HN3.out⟩
  case round =>
    obtain ⟨k, hk, rfl, rfl, HK⟩ := hrel
    have hmulb : ((m : Int) + 40) * ((k : Int) + 1) ≤ 340 * 301 := Int.mul_le_mul (by omega) (by omega) (by omega) (by omega)
    have hmul0 : 40 * ((k : Int) + 1) ≤ ((m : Int) + 40) * ((k : Int) + 1) := Int.mul_le_mul_of_nonneg_right (by omega) (by omega)
    obtain ⟨P, HP⟩ : ∃ P, ((m : Int) + 40) * ((k : Int) + 1) = P := ⟨_, rfl⟩
    rw [HP] at hmulb hmul0
    have hP0 : 0 ≤ P := by omega
    have hP1 : P ≤ 102340 := by omega
    have HP40 : Hid (40 * ((k : Int) + 1) ≤ P) := hmul0
    clear hmulb hmul0
    have HPn : Hid (((((k + 1) * (m + 40) : Nat)) : Int) = P) := by
      show _ = _
      rw [← HP, Int.mul_comm, Int.natCast_mul]
      rfl
    by_cases hlt : k < 300
    · have hlt' : (k : Int) < 300 := by omega
      have hne : ((k : Int) == 300) = false := by rw [beq_eq_false_iff_ne]; omega
      obtain ⟨w4, a4, L4, c4, hmk, HC4⟩ := FR.step HK.out HT.out hR hm hlt
      clear HN3
      go_wp2_with (go_at_call 14; refine Calls.mono HC4.out ?_; rintro e w5 ⟨E, rfl, ⟨rfl, HX5⟩ | ⟨rfl, HX5⟩⟩)
      · go_roundw
        case rel => exact ⟨k + 1, by omega, rfl, by go_num, HX5.out⟩
        case measure => simp [intOf]; omega
      · have hfin : (R : Int) - ((m : Int) + 40) - 200 < P + 64 := by
          have h1 := HX5.out.2
          have h2 : (k + 1) * (m + 28) ≤ (k + 1) * (m + 40) := Nat.mul_le_mul_left _ (by omega)
          have h3 := HPn.out
          omega
        have HE : Hid (_) := FR.tail HX5.out.1 HT.out hw0 hm hk
        clear HX5 hmk HC4 HK HPn HP40
        refine Calls.mono HE.out ?_
        rintro e w6 ⟨rfl, HE6⟩
        go_wp2_with (first
          | (go_at_call 18; refine Calls.mono HE6.out ?_; rintro e w7 ⟨q, rfl, HE7⟩; clear HE6)
          | (go_at_call 11; refine Calls.mono HE7.out ?_; rintro e w8 ⟨r, rfl, HE8⟩; clear HE7)
          | (go_at_call 24; refine Calls.mono HE8.out ?_; rintro e w9 ⟨rfl, HE9⟩; clear HE8)
          | (go_at_call 24; refine Calls.mono HE9.out ?_; rintro e w10 ⟨rfl, HE10⟩; clear HE9))
        go_ret
        exact ⟨rfl, HE10.out⟩
    · obtain rfl : k = 300 := by omega
      have hfin : (R : Int) - ((m : Int) + 40) - 200 < P + 64 := by
        have h1 := HP40.out
        omega
      have HE : Hid (_) := FR.tail HK.out HT.out hw0 hm hk
      clear HK HPn HP40 HN3
      go_wp2_with fail
      refine Calls.mono HE.out ?_
      rintro e w6 ⟨rfl, HE6⟩
      go_wp2_with (first
        | (go_at_call 18; refine Calls.mono HE6.out ?_; rintro e w7 ⟨q, rfl, HE7⟩; clear HE6)
        | (go_at_call 11; refine Calls.mono HE7.out ?_; rintro e w8 ⟨r, rfl, HE8⟩; clear HE7)
        | (go_at_call 24; refine Calls.mono HE8.out ?_; rintro e w9 ⟨rfl, HE9⟩; clear HE8)
        | (go_at_call 24; refine Calls.mono HE9.out ?_; rintro e w10 ⟨rfl, HE10⟩; clear HE9))
      go_ret
      exact ⟨congrArg (fun b => Ending.returned (Value.bool b)) (decide_eq_true (show (R : Int) - ((m : Int) + 40) - 200 < ((m : Int) + 40) * 301 + 64 by omega)), HE10.out⟩
end Go.Proofs.YtnbdkojdddplkaaDoor.Wl

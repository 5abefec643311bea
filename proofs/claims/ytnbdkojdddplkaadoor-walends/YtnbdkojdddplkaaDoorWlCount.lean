/- The walk of countUpTo. -/
import Derived.Test.YtnbdkojdddplkaaDoorWlFront
namespace Go.Proofs.YtnbdkojdddplkaaDoor.Wl
open Go.RowKit Dk

/-- How many records have numbers up to n. -/
def cnt (first : Int) (ds : List (List UInt8)) (n : Int) : Nat := if lastL first ds ≤ n then ds.length else (n - first + 1).toNat

set_option maxHeartbeats 1000000 in
theorem count_any (B p pd : Nat) (s : St) (F : Nat → Prop) (first : Int) (ds : List (List UInt8)) (n : Int) (w : World) (h : LW w B p pd s F first ds) (h0 : 0 ≤ n) (h1 : n ≤ 9223372036854775806) :
    Calls Tryd.prog 35 #[.pointer (some ⟨p, 0, none⟩), .int .i64 n] w fun e w' => e = .returned (.int .i64 (cnt first ds n : Nat)) ∧ ∃ m, w' = w.drewN m := by
  have HL : Hid (_) := h.last
  obtain ⟨_, ⟨vr, rs, G, hL, rfl, _⟩, _, _⟩ := h
  obtain ⟨c0, c1, c2, _⟩ := hL.cells
  obtain ⟨ao, cap, rfl, _⟩ := hL.shape
  have hfit := hL.fit
  have HD : Hid (∀ m, (w.drewN m).cell? ⟨p, 1, none⟩ = some (.int .i64 first) ∧ (w.drewN m).cell? ⟨p, 2, none⟩ = some (.slice ao rs.length cap)) := fun m => ⟨c1, c2⟩
  unfold cnt
  rw [List.length_map]
  obtain ⟨l, Hl⟩ : ∃ l, Hid (l = lastL first (rs.map Re.data)) := ⟨_, (rfl : _ = _)⟩
  rw [← Hl.out] at HL ⊢
  obtain ⟨N, HN⟩ : ∃ N, Hid (N = rs.length) := ⟨_, (rfl : _ = _)⟩
  rw [← HN.out] at HD hfit ⊢
  clear hL c0 c1 c2
  by_cases hc : l ≤ n
  · rw [if_pos hc]
    go_enter Tryd.func35, Tryd.ntmps35
    go_wp2_with (go_at_call 24; refine Calls.mono HL.out ?_; rintro e w1 ⟨rfl, m, rfl⟩; obtain ⟨d1, d2⟩ := HD.out m; clear HD)
    go_ret
    exact ⟨rfl, m, rfl⟩
  · rw [if_neg hc]
    by_cases hz : n - first + 1 < 0
    · have hT : ((n - first + 1).toNat : Int) = 0 := by omega
      rw [hT]
      go_enter Tryd.func35, Tryd.ntmps35
      go_wp2_with (go_at_call 24; refine Calls.mono HL.out ?_; rintro e w1 ⟨rfl, m, rfl⟩; obtain ⟨d1, d2⟩ := HD.out m; clear HD)
      go_ret
      exact ⟨rfl, m, rfl⟩
    · have hT : ((n - first + 1).toNat : Int) = n - first + 1 := by omega
      rw [hT]
      go_enter Tryd.func35, Tryd.ntmps35
      go_wp2_with (go_at_call 24; refine Calls.mono HL.out ?_; rintro e w1 ⟨rfl, m, rfl⟩; obtain ⟨d1, d2⟩ := HD.out m; clear HD)
      go_ret
      exact ⟨rfl, m, rfl⟩
end Go.Proofs.YtnbdkojdddplkaaDoor.Wl

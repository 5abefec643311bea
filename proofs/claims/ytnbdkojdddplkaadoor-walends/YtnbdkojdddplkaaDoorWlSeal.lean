/- The walks of seal and unseal. -/
import Derived.Test.YtnbdkojdddplkaaDoorWlAdd
namespace Go.Proofs.YtnbdkojdddplkaaDoor.Wl
open Go.RowKit Dk

theorem enc_le (n : Int) : (Bn.enc n).length ≤ 10 := Bn.enc_le n

theorem wrote_below {w w' : World} {B base : Nat} {row : Option Nat} (h : Bn.Wrote w w' B row) (hB : base ≤ B) (hr : ∀ k, row = some k → base ≤ k) (hs : base ≤ w.heap.size) : Below base w w' :=
  ⟨h.os, h.tape, h.output, h.size, fun k hk => h.block k (by omega) (by omega) (fun e => by have := hr k e.symm; omega)⟩

set_option maxHeartbeats 1000000 in
set_option maxRecDepth 20000 in
theorem seal_any (n : Int) (vb : Value) (b : List UInt8) (w : World) (hS : Sl w vb b) (ht : Fr.Tab w) (hn : -9223372036854775808 ≤ n ∧ n ≤ 9223372036854775807) (hl : b.length ≤ 32768) :
    Calls Tryd.prog 32 #[.int .i64 n, vb] w fun e w' => ∃ ao L cap, e = .returned (.slice ao L cap) ∧ Hid (w'.ownsRow w.heap.size 5 1 (.slice ao L cap) (recB n b).length (cells8 (recB n b)) ∧ Below w.heap.size w w') := by
  obtain ⟨aob, capb, rfl, _, _⟩ := hS.shape
  have hW0 : Bn.Wr (w.alloc (.cells #[.slice none 0 0] 92)) 92 (w.heap.size + 1) w.heap.size (.slice none 0 0) [] := ⟨heap_alloc_new _ _, World.ownsRow_nil _ _ _ _⟩
  have hb0 : Below w.heap.size w (w.alloc (.cells #[.slice none 0 0] 92)) := (Below.refl _ _).alloc (Nat.le_refl _) _
  have hs0 : (w.alloc (.cells #[.slice none 0 0] 92)).heap.size = w.heap.size + 1 := by simp
  have H1 : Hid (Calls Tryd.prog 54 #[.pointer (some ⟨w.heap.size, 0, none⟩), .int .i64 n] (w.alloc (.cells #[.slice none 0 0] 92)) fun e w1 => e = .returned (.tuple #[]) ∧ Hid (
      Calls Tryd.prog 55 #[.pointer (some ⟨w.heap.size, 0, none⟩), .slice aob b.length capb] w1 fun e w2 => e = .returned (.tuple #[]) ∧ Hid (
      Calls Tryd.prog 57 #[.pointer (some ⟨w.heap.size, 0, none⟩)] w2 fun e w3 => ∃ ao3 L3 cap3, e = .returned (.slice ao3 L3 cap3) ∧ Hid (
      Calls Tryd.prog 56 #[.slice ao3 L3 cap3] w3 fun e w4 => ∃ ao L cap, e = .returned (.slice ao L cap) ∧ Hid (w4.ownsRow w.heap.size 5 1 (.slice ao L cap) (recB n b).length (cells8 (recB n b)) ∧ Below w.heap.size w w4))))) := by
    refine (Bn.wnum_any (w.heap.size + 1) w.heap.size (.slice none 0 0) [] n _ hW0 (by omega) hn.1 hn.2 (by simp)).mono ?_
    rintro e w1 ⟨rfl, v1, hW1, hr1, _⟩
    rw [List.nil_append] at hW1
    have k1 : Below w.heap.size w w1 := hb0.trans (wrote_below hr1 (Nat.le_refl _) (fun k hk => by simp [Value.ownBlock] at hk) (by omega))
    have he := Bn.enc_le n
    have he2 := Bn.enc_le (b.length : Int)
    have hs1 := k1.size
    have hs1' := hr1.size
    refine ⟨rfl, (Bn.wtext_any (w.heap.size + 1) w.heap.size v1 _ (Bn.enc n) b w1 hW1 (by omega) (hS.below k1) (fun w' hw => ?_) (by omega)).mono ?_⟩
    · have k2 : Below w.heap.size w1 w' := wrote_below hw (Nat.le_refl _) (fun k hk => by have := (hW1.2.lt k hk).1; omega) hs1
      exact hS.below (k1.trans k2)
    · rintro e w2 ⟨rfl, v2, hW2, hr2, _⟩
      have k2 : Below w.heap.size w w2 := k1.trans (wrote_below hr2 (Nat.le_refl _) (fun k hk => by have := (hW1.2.lt k hk).1; omega) hs1)
      have hlen : (Bn.enc n ++ (Bn.enc (b.length : Int) ++ b)).length ≤ 40000 := by
        rw [List.length_append, List.length_append]
        omega
      refine ⟨rfl, (Bn.wbytes_any (w.heap.size + 1) w.heap.size v2 _ w2 hW2 (by omega)).mono ?_⟩
      rintro e w3 ⟨v3, rfl, hO3, hb3⟩
      have k3 : Below w.heap.size w w3 := k2.trans (hb3.mono k2.size)
      obtain ⟨ao3, L3, cap3, rfl⟩ := own_slice hO3
      refine ⟨ao3, L3, cap3, rfl, (Fr.seal_any _ _ w3 (Sl.of_own hO3) (ht.below k3) (by omega)).mono ?_⟩
      rintro e w4 ⟨v4, rfl, hO4, hb4⟩
      obtain ⟨ao4, L4, cap4, rfl⟩ := own_slice hO4
      exact ⟨ao4, L4, cap4, rfl, own_base hO4 (fun k hk => Nat.le_trans k3.size (hO4.lt k hk).1), k3.trans (hb4.mono k3.size)⟩
  clear hW0 hb0 hs0 hS ht
  go_enter Tryd.func32, Tryd.ntmps32
  go_wp2_with (first
    | (go_at_call 54; refine Calls.mono H1.out ?_; rintro e w1 ⟨rfl, H2⟩)
    | (go_at_call 55; refine Calls.mono H2.out ?_; rintro e w2 ⟨rfl, H3⟩)
    | (go_at_call 57; refine Calls.mono H3.out ?_; rintro e w3 ⟨ao3, L3, cap3, rfl, H4⟩)
    | (go_at_call 56; refine Calls.mono H4.out ?_; rintro e w4 ⟨ao4, L4, cap4, rfl, HX⟩))
  go_ret
  exact ⟨_, _, _, rfl, HX⟩

/-- What a record's seal holds. -/
def unsealL (body : List UInt8) : Option (Int × List UInt8) :=
  match (Bn.rText (Bn.rNum (some body)).2).2 with
  | none => none
  | some rest => if rest.length = 0 ∧ (Bn.rText (Bn.rNum (some body)).2).1.length ≤ 32768 then some ((Bn.rNum (some body)).1, (Bn.rText (Bn.rNum (some body)).2).1) else none
end Go.Proofs.YtnbdkojdddplkaaDoor.Wl

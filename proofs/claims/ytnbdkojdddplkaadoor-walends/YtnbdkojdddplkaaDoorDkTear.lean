/- The walks of a folder's tear and clone. -/
import Derived.Test.YtnbdkojdddplkaaDoorDkDo
namespace Go.Proofs.YtnbdkojdddplkaaDoor.Dk
open Go.RowKit

theorem elem32 : Tryd.prog.underlying 33 = some (.slice (Tryd.prog.elem 33)) := by kernel_rfl
theorem size32 (w : World) : (sizeOf (Tryd.prog.elem 33)).run Tryd.prog w = .ok 1 w := by kernel_rfl
/-- The front of a slice of bytes, its place kept. -/
theorem slice_front (ao : Option Addr) (L cap k : Nat) (hk : k ≤ L) (hc : L ≤ cap) (w' : World) : (Instr.slice 33 (.slice ao L cap) none (some (.int .i64 (k : Int))) none).run Tryd.prog w' = .ok (.slice ao k cap) w' ∧ (Instr.sliceAt 33 (.slice ao L cap) none (some (.int .i64 (k : Int))) none).run Tryd.prog w' = .ok (.slice ao k cap) w' := by
  have e : (Instr.slice 33 (.slice ao L cap) none (some (.int .i64 (k : Int))) none).run Tryd.prog w' = .ok (.slice ao k cap) w' := by
    rw [run_slice_h w' 33 ao L cap elem32 .i64 k (by omega) (by omega), size32]
    simp [Result.andThen, sliced]
    cases ao <;> simp [Addr.add]
  exact ⟨e, by rw [run_sliceAt_slice (P := Tryd.prog) w' 33 _ _ _ _ elem32]; exact e⟩

set_option maxHeartbeats 1000000 in
set_option maxRecDepth 20000 in
theorem tear_go (b o : Nat) (v : Value) (zs : List Ent) (F : Nat → Prop) (cv : Value) (n : ByteArray) (bs : List UInt8) (k : Nat) (w : World) (hc : w.cell? ⟨b, o, none⟩ = some v) (hfz : w.frozen? ⟨b, o, none⟩ = false) (hF : Fol w v zs F) (hbF : ¬ F b) (hs : Srt (zs.map Ent.fl))
    (hV : ChV w cv (.app n bs) (fun k => F k ∨ k = b)) (hm : mass (zs.map Ent.fl) + bs.length ≤ 1000000000) :
    Calls Tryd.prog 43 #[.pointer (some ⟨b, o, none⟩), cv, .int .i64 (k : Int)] w fun e w' => e = .returned (.tuple #[]) ∧ Chg w w' b o F (ap (zs.map Ent.fl) (.app n (bs.take k))) := by
  obtain ⟨kd, nm, ao, L, cap, sz, t, rfl, rfl, rfl, hS⟩ := hV
  have hbw := cell_lt hc
  have hL : L = bs.length := hS.sl.len
  have hcap : L ≤ cap ∧ cap ≤ 9223372036854775807 := by
    obtain ⟨_, _, e, h1, h2⟩ := hS.sl.shape
    simp only [Value.slice.injEq] at e
    obtain ⟨_, e2, rfl⟩ := e
    exact ⟨by omega, h2⟩
  have hb1 : Below w.heap.size w (w.alloc (.cells #[.int .i64 1, .string nm, .slice ao L cap, .int .i64 sz, .string t] 76)) := (Below.refl _ _).alloc (Nat.le_refl _) _
  obtain ⟨m, hmin, HM⟩ : ∃ m : Nat, min (k : Int) (L : Int) = (m : Int) ∧ Hid (m = min k L) := ⟨min k L, by omega, rfl⟩
  have hmin2 : (if (L : Int) < (k : Int) then (L : Int) else (k : Int)) = (m : Int) := by rw [← hmin]; split <;> omega
  have hmin3 : (if L < k then (L : Int) else (k : Int)) = (m : Int) := by rw [← hmin]; split <;> omega
  have hmL : m ≤ L := by have := HM.out; omega
  have hS' : SlA w (.slice ao m cap) (bs.take k) (fun k => F k ∨ k = b) := by
    refine ⟨?_, fun a n' c' e => hS.away a L cap (by simp only [Value.slice.injEq] at e; rw [e.1])⟩
    have h1 := hS.sl.take m (by omega)
    have e : bs.take m = bs.take k := by
      rw [HM.out, hL]
      rcases Nat.le_total k bs.length with h | h
      · rw [Nat.min_eq_left h]
      · rw [Nat.min_eq_right h, List.take_of_length_le (Nat.le_refl _), List.take_of_length_le h]
    rw [e] at h1
    exact h1
  have HA : Hid (∀ w1, Below w.heap.size w w1 → Calls Tryd.prog 62 #[.pointer (some ⟨b, o, none⟩), .string nm, .slice ao m cap] w1 fun e w' => e = .returned (.tuple #[]) ∧ Hid (Chg w w' b o F (ap (zs.map Ent.fl) (.app nm (bs.take k)))) ∧ Hid (∀ p u, w1.cell? p = some u → p.block ≠ b → ¬ F p.block → w'.cell? p = some u)) := by
    intro w1 hb
    refine (add_any b o v zs F nm _ (bs.take k) w1 (below_cell hb hc) ((below_frozen hb hc).trans hfz) (hF.below hb) hbF hs (hS'.kept (Fr.of_below hb)) (by rw [List.length_take]; omega)).mono ?_
    rintro e w' ⟨rfl, hX⟩
    refine ⟨rfl, hX.from hb hF.lt, fun p u hp hpb hpF => ?_⟩
    obtain ⟨v', _, _, _, hfr⟩ := hX
    exact hfr.cell (by rw [World.cell?_setCell_other _ _ _ _ (fun e => hpb (by rw [← e]))]; exact hp) hpF
  have hsl := fun w' => slice_front ao L cap m hmL hcap.1 w'
  have hmF : ¬ F w.heap.size := fun h => by have := hF.lt _ h; omega
  have hmb : w.heap.size ≠ b := fun e => by omega
  have HB : Hid (_) := hb1
  have hk0 : ¬ ((k : Int) < 0) := by omega
  clear hF hS hS' hs hm HM hb1 hc hfz hmL hL
  go_enter Tryd.func43, Tryd.ntmps43
  go_wp2_with fail
  go_region_held (fun w' => w'.cell? ⟨w.heap.size, 1, none⟩ = some (.string nm) ∧ w'.cell? ⟨w.heap.size, 2, none⟩ = some (.slice ao L cap) ∧ (Instr.slice 33 (.slice ao L cap) none (some (.int .i64 (m : Int))) none).run Tryd.prog w' = .ok (.slice ao m cap) w' ∧ (Instr.sliceAt 33 (.slice ao L cap) none (some (.int .i64 (m : Int))) none).run Tryd.prog w' = .ok (.slice ao m cap) w')
    (first | exact ⟨by simp, by simp, (hsl _).1, (hsl _).2⟩ | exact ⟨MM.out _ _ (by simp) hmb hmF, MM.out _ _ (by simp) hmb hmF, (hsl _).1, (hsl _).2⟩)
    (first | (go_at_call 62; refine (HA.out _ HB.out.drew).mono ?_; rintro e w6 ⟨rfl, HX, MM⟩))
  go_wp2
  go_end0
  exact ⟨rfl, HX.out⟩

theorem tear_any (b o : Nat) (v : Value) (zs : List Ent) (F : Nat → Prop) (cv : Value) (c : Ch) (k : Int) (w : World) (hc : w.cell? ⟨b, o, none⟩ = some v) (hfz : w.frozen? ⟨b, o, none⟩ = false) (hF : Fol w v zs F) (hbF : ¬ F b) (hs : Srt (zs.map Ent.fl))
    (hV : ChV w cv c (fun k => F k ∨ k = b)) (hm : mass (zs.map Ent.fl) + c.mass ≤ 1000000000) :
    Calls Tryd.prog 43 #[.pointer (some ⟨b, o, none⟩), cv, .int .i64 k] w fun e w' => e = .returned (.tuple #[]) ∧ Chg w w' b o F (torn (zs.map Ent.fl) c k) := by
  by_cases hk : k < 0
  · exact tear_not b o v zs F cv c k w hc hF hV (Or.inr hk)
  · cases c with
    | app n bs =>
      obtain ⟨q, rfl⟩ : ∃ q : Nat, k = (q : Int) := ⟨k.toNat, by omega⟩
      have e : torn (zs.map Ent.fl) (.app n bs) (q : Int) = ap (zs.map Ent.fl) (.app n (bs.take q)) := by
        simp only [torn, if_neg hk, Int.toNat_natCast]
      rw [e]
      exact tear_go b o v zs F cv n bs q w hc hfz hF hbF hs hV (by simp only [Ch.mass] at hm; omega)
    | cut n q => exact tear_not b o v zs F cv _ k w hc hF hV (Or.inl rfl)
    | rem n => exact tear_not b o v zs F cv _ k w hc hF hV (Or.inl rfl)
    | mov n q => exact tear_not b o v zs F cv _ k w hc hF hV (Or.inl rfl)
end Go.Proofs.YtnbdkojdddplkaaDoor.Dk

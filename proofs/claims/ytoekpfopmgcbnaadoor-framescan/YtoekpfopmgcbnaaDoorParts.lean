/- What a slice of slices of bytes that came in reads as. -/
import Derived.Test.YtoekpfopmgcbnaaDoorTold
import Derived.Deep.Matrix
namespace Go.Proofs.YtoekpfopmgcbnaaDoor
open Go.ChangeShapes Go.WideShapes Go.ChangeAt Go.RowKit

theorem rows_told {H : Type} {enc : TypeId × Value → H} {w : World} {ao : Option Addr} {len cap : Nat} {y : DataW H × List MemPlace}
    (h : ∃ fuel, DataW.trod enc Tryd.prog w 0 (fun _ => true) true fuel 31 [.slice ao len cap] = some y) :
    (0 < len → ∃ g off, ao = some ⟨g, off, none⟩ ∧ ∀ j, j < len → ∃ u bs, w.cell? ⟨g, off + j, none⟩ = some u ∧ Sl w u bs) ∧ len ≤ maxLen := by
  obtain ⟨fuel, hf⟩ := h
  rcases Deep.open_int_rows Tryd.underlying31 Tryd.underlying22 Tryd.underlying5 (by kernel_rfl) (by kernel_rfl) hf with ⟨hcs, _⟩ | ⟨a, len', cap', A, L, C, Z, hcs, _, hl, hm, _, hr⟩
  · simp at hcs
    obtain ⟨rfl, rfl, rfl⟩ := hcs
    exact ⟨fun h => by omega, by simp [maxLen]⟩
  · simp at hcs
    obtain ⟨rfl, rfl, rfl⟩ := hcs
    refine ⟨fun hp => ?_, by omega⟩
    have h00 := (hr 0 (by omega)).1
    obtain ⟨b, off, spot⟩ := a
    have hspot : spot = none := by
      have := World.cell?_spot h00
      simpa [Addr.add] using this
    subst hspot
    refine ⟨b, off, rfl, fun j hj => ?_⟩
    obtain ⟨hc, h1, h2, h3, h4, h5, h6⟩ := hr j (by omega)
    rw [Addr.add_lit] at hc
    have hrow : IsRow .u8 w (A j) (L j) (C j) (Z j) := by
      cases hA : A j with
      | none =>
        have hC := h5 hA
        refine Or.inl ⟨rfl, by omega, hC, List.eq_nil_of_length_eq_zero (by omega)⟩
      | some x => exact Or.inr ⟨x, rfl, h1, h2, h3, fun i hi => (h6 x hA).2 i (by omega), h4⟩
    obtain ⟨bs, hS⟩ := told8 hrow
    exact ⟨_, bs, hc, hS⟩
end Go.Proofs.YtoekpfopmgcbnaaDoor

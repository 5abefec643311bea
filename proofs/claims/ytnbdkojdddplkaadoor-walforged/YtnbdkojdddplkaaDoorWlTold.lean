/- What slices of bytes, of such slices and of strings that came in read as. -/
import Derived.Test.YtnbdkojdddplkaaDoorLaid
import Derived.Test.YtnbdkojdddplkaaDoorDkMem
import Derived.Deep.Matrix
import Derived.SliceStrings
namespace Go.Proofs.YtnbdkojdddplkaaDoor.Wl
open Go.ChangeShapes Go.WideShapes Go.ChangeAt Go.RowKit Dk

theorem toNat_lo {u : Nat} (h : u < 256) : (UInt8.ofNat u).toNat = u := by rw [UInt8.toNat_ofNat']; exact Nat.mod_eq_of_lt h

/-- WHAT THE WALK IS TOLD OF A SLICE OF INTEGERS THAT CAME IN: it is nil; or it leads to a row of 'cap' cells, the numbers 'zs' (the first 'len' are its elements, the rest its spare room), each fitting its kind. -/
def IsRow (k : IntKind) (w : World) (a : Option Addr) (len cap : Nat) (zs : List Int) : Prop :=
  (a = none ∧ len = 0 ∧ cap = 0 ∧ zs = []) ∨
  ∃ x, a = some x ∧ len ≤ cap ∧ cap ≤ maxLen ∧ zs.length = cap ∧ (∀ i, i < zs.length → w.cell? (x.add i) = some (.int k (zs.getD i 0))) ∧ ∀ n ∈ zs, (Lit.int k n).wf = true

/-- The bytes of the row of bytes. -/
theorem told8 {w : World} {a : Option Addr} {len cap : Nat} {zs : List Int} (h : IsRow .u8 w a len cap zs) : ∃ bs, Sl w (.slice a len cap) bs := by
  rcases h with ⟨rfl, rfl, rfl, rfl⟩ | ⟨x, rfl, h1, h2, h3, h4, h5⟩
  · exact ⟨[], Sl.nil w⟩
  · have hl : ((zs.take len).map fun n => UInt8.ofNat n.toNat).length = len := by simp; omega
    refine ⟨(zs.take len).map fun n => UInt8.ofNat n.toNat, some x, cap, by rw [hl], by omega, h2, fun e => by simp at e, fun hp => ?_⟩
    rw [hl] at hp ⊢
    obtain ⟨b, off, rfl, hc⟩ := ints_at h4 (by omega)
    refine ⟨b, off, rfl, fun j hj => ?_⟩
    rw [hc j (by omega)]
    have hjz : j < zs.length := by omega
    have hb := bounds_u8 (h5 _ (List.getElem_mem hjz))
    have e1 : zs.getD j 0 = zs[j] := by simp [List.getD, List.getElem?_eq_getElem hjz]
    have e2 : ((zs.take len).map fun n => UInt8.ofNat n.toNat).getD j 0 = UInt8.ofNat (zs[j]).toNat := by
      simp [List.getD, hj, List.getElem?_eq_getElem hjz]
    unfold at8
    rw [e1, e2, toNat_lo (by omega)]
    congr 2
    omega

theorem rows_told {H : Type} {enc : TypeId × Value → H} {w : World} {ao : Option Addr} {len cap : Nat} {y : DataW H × List MemPlace}
    (h : ∃ fuel, DataW.trod enc Tryd.prog w 0 (fun _ => true) true fuel 30 [.slice ao len cap] = some y) :
    (0 < len → ∃ g off, ao = some ⟨g, off, none⟩ ∧ ∀ j, j < len → ∃ u bs, w.cell? ⟨g, off + j, none⟩ = some u ∧ Sl w u bs) ∧ len ≤ maxLen := by
  obtain ⟨fuel, hf⟩ := h
  rcases Deep.open_int_rows Tryd.underlying30 Tryd.underlying33 Tryd.underlying5 (by kernel_rfl) (by kernel_rfl) hf with ⟨hcs, _⟩ | ⟨a, len', cap', A, L, C, Z, hcs, _, hl, hm, _, hr⟩
  · simp at hcs
    obtain ⟨rfl, rfl, rfl⟩ := hcs
    exact ⟨fun h => by omega, by simp [maxLen]⟩
  · simp at hcs
    obtain ⟨rfl, rfl, rfl⟩ := hcs
    refine ⟨fun hp => ?_, by omega⟩
    have h00 := (hr 0 (by omega)).1
    obtain ⟨b, off, spot⟩ := a
    have hspot : spot = none := by
      have := World.cell?_spot h00
      simpa [Addr.add] using this
    subst hspot
    refine ⟨b, off, rfl, fun j hj => ?_⟩
    obtain ⟨hc, h1, h2, h3, h4, h5, h6⟩ := hr j (by omega)
    rw [Addr.add_lit] at hc
    have hrow : IsRow .u8 w (A j) (L j) (C j) (Z j) := by
      cases hA : A j with
      | none =>
        have hC := h5 hA
        refine Or.inl ⟨rfl, by omega, hC, List.eq_nil_of_length_eq_zero (by omega)⟩
      | some x => exact Or.inr ⟨x, rfl, h1, h2, h3, fun i hi => (h6 x hA).2 i (by omega), h4⟩
    obtain ⟨bs, hS⟩ := told8 hrow
    exact ⟨_, bs, hc, hS⟩

theorem strs_told {H : Type} {enc : TypeId × Value → H} {w : World} {ao : Option Addr} {len cap : Nat} {y : DataW H × List MemPlace}
    (h : ∃ fuel, DataW.trod enc Tryd.prog w 0 (fun _ => true) true fuel 46 [.slice ao len cap] = some y) :
    (∀ i, i < len → ∃ g off s, ao = some ⟨g, off, none⟩ ∧ w.cell? ⟨g, off + i, none⟩ = some (.string s) ∧ s.size ≤ maxLen) ∧ len ≤ maxLen := by
  obtain ⟨fuel, hf⟩ := h
  rcases open_strings Tryd.underlying46 Tryd.underlying9 (by kernel_rfl) hf with ⟨hcs, _⟩ | ⟨a, len', cap', ss, hcs, _, hl, hm, hss, _, hc, hz⟩
  · simp at hcs
    obtain ⟨rfl, rfl, rfl⟩ := hcs
    exact ⟨fun i h => by omega, by simp [maxLen]⟩
  · simp at hcs
    obtain ⟨rfl, rfl, rfl⟩ := hcs
    refine ⟨fun i hi => ?_, by omega⟩
    have hsl : ss.length = cap := by simpa using hss
    have h0 := hc i (by omega)
    have h00 := hc 0 (by omega)
    obtain ⟨b, off, spot⟩ := a
    have hspot : spot = none := by
      have := World.cell?_spot h00
      simpa [Addr.add] using this
    subst hspot
    rw [Addr.add_lit] at h0
    refine ⟨b, off, _, rfl, h0, ?_⟩
    have hi' : i < ss.length := by omega
    have e : ss.getD i ByteArray.empty = ss[i] := by simp [List.getD, List.getElem?_eq_getElem hi']
    rw [e]
    exact hz _ (List.getElem_mem hi')
end Go.Proofs.YtnbdkojdddplkaaDoor.Wl

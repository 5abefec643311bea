/- What a slice of ints that came in reads as. -/
import Derived.Test.YtleelemcmnlfiaaTold
import Derived.Test.YtleelemcmnlfiaaTorn
namespace Go.Proofs.Ytleelemcmnlfiaa
open Go.ChangeShapes Go.WideShapes Go.ChangeAt Go.RowKit

/-- What the walk asks of the row of ints, out of what is told of it. -/
theorem told {w : World} {a : Option Addr} {len cap : Nat} {zs : List Int} (h : IsRow .i64 w a len cap zs) :
    (0 < len → ∃ b off, a = some ⟨b, off, none⟩ ∧ ∀ j, j < len → w.cell? ⟨b, off + j, none⟩ = some (.int .i64 (ati zs j))) ∧ len ≤ maxLen := by
  rcases h with ⟨rfl, rfl, rfl, rfl⟩ | ⟨x, rfl, h1, h2, h3, h4, h5⟩
  · exact ⟨fun h => by omega, by simp [maxLen]⟩
  · refine ⟨fun hp => ?_, by omega⟩
    obtain ⟨b, off, rfl, hc⟩ := ints_at h4 (by omega)
    exact ⟨b, off, rfl, fun j hj => hc j (by omega)⟩
end Go.Proofs.Ytleelemcmnlfiaa

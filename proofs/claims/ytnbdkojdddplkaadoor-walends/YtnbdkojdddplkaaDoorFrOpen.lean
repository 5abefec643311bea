/- The walk of Open. -/
import Derived.Test.YtnbdkojdddplkaaDoorFrFrame
namespace Go.Proofs.YtnbdkojdddplkaaDoor.Fr
open Go.RowKit

theorem own_lower {w : World} {base base' : Nat} {T : TypeId} {v : Value} {n : Nat} {xs : List Value} (h : w.ownsRow base T 1 v n xs) (hb : base' ≤ base) : w.ownsRow base' T 1 v n xs :=
  ⟨h.1, h.2.imp id fun ⟨g, cap, cur, e1, e2, e3⟩ => ⟨g, cap, cur, e1, Nat.le_trans hb e2, e3⟩⟩

theorem first_is (v : Value) (bs : List UInt8) (x : Option (List UInt8)) (b : Bool) (t : List UInt8) (w : World) (h : Sl w v bs) (ht : Tab w) (hx : firstB bs = x) (hb : x.isSome = b) (hy : x.getD [] = t) :
    Calls Tryd.prog 68 #[v] w fun e w' => ∃ v', e = .returned (.tuple #[v', .bool b]) ∧ Sl w' v' t ∧ Hid (Below w.heap.size w w') ∧ Hid (∃ m, w' = w.drewN m) := by
  refine (first_any v bs w h ht).mono ?_
  rintro e w' ⟨v', rfl, hS, m, hm⟩
  subst hx hb hy
  exact ⟨v', rfl, by subst hm; exact hS, below_draw hm, m, hm⟩

end Go.Proofs.YtnbdkojdddplkaaDoor.Fr

/- The walks of the document's Sum, four and Seal. -/
import Derived.Test.YtnbdkojdddplkaaDoorFrBegun
namespace Go.Proofs.YtnbdkojdddplkaaDoor.Fr
open Go.RowKit

def iterB : Nat → Nat → Nat
  | 0, c => c
  | n + 1, c => iterB n (bit1 c)
theorem step_iter (c : Nat) (b : UInt8) : step c b = iterB 8 (c ^^^ b.toNat) := by
  unfold step
  rw [nib_bits, nib_bits]
  rfl
theorem bit1_odd (c : Nat) (h : c < 4294967296) (h1 : c % 2 = 1) : bits .xor .u32 ((c : Int) / 2) 3988292384 = (bit1 c : Int) := by
  unfold bit1
  rw [if_pos h1]
  have := u32_xor_nat (c / 2) 3988292384 (by omega) (by omega)
  rw [Int.natCast_ediv] at this
  exact this
theorem bit1_ev (c : Nat) (h1 : ¬ c % 2 = 1) : (c : Int) / 2 = (bit1 c : Int) := by
  unfold bit1
  rw [if_neg h1]
  omega
theorem xor_walk (cc : Nat) (bs : List UInt8) (k : Nat) (hc : cc < 4294967296) : bits .xor .u32 (cc : Int) (at8 bs k % 4294967296) = ((cc ^^^ (bs.getD k 0).toNat : Nat) : Int) := by
  have hb := byte_lt (bs.getD k 0)
  have e : at8 bs k % 4294967296 = ((bs.getD k 0).toNat : Int) := by unfold at8; omega
  rw [e]
  exact u32_xor_nat _ _ hc (by omega)

theorem own_below {w w' : World} {base e : Nat} {v : Value} {n : Nat} {xs : List Value} (h : w.ownsRow base e 1 v n xs) (hb : Below w.heap.size w w') : w'.ownsRow base e 1 v n xs := by
  obtain ⟨h1, h2⟩ := h
  refine ⟨h1, ?_⟩
  rcases h2 with h2 | ⟨g, cap, cur, e1, e2, e3, e4⟩
  · exact Or.inl h2
  · exact Or.inr ⟨g, cap, cur, e1, e2, by rw [hb.block g (lt_of_block e3)]; exact e3, e4⟩

end Go.Proofs.YtnbdkojdddplkaaDoor.Fr

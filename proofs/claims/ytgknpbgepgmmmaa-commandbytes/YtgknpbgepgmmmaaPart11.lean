/- What commands and bytes that came in read as. -/
import Derived.Test.YtgknpbgepgmmmaaPart10
import Derived.Deep.Slices
import Derived.Deep.Strs
import Derived.Lib.SmallJoins
namespace Go.Proofs.Ytgknpbgepgmmmaa.Cm
open Go.ChangeShapes Go.WideShapes Go.ChangeAt Go.RowKit Go.Joins
open Bn Kp

set_option maxRecDepth 100000 in
theorem told_bytes {H : Type} {enc : TypeId × Value → H} {w : World} {r : Reach} {b0 : Nat} {v : Value} {d : DataW H} {p : List MemPlace} (hv : Value.okWide Try.prog w r b0 24 v) (h : DataW.Trod enc Try.prog w 0 (fun _ => true) true 24 v d p) :
    ∃ (ao : Option Addr) (l c : Nat) (bs : List UInt8), v = .slice ao l c ∧ Sl w (.slice ao l c) bs := by
  obtain ⟨a0, len0, cap0, rfl⟩ := okWide_slice Try.underlying24 hv
  obtain ⟨fuel, hf⟩ := h
  have hf' : DataW.trod enc Try.prog w 0 (fun _ => true) true fuel 24 [.slice a0 len0 cap0] = some (d, p) := hf
  obtain ⟨ao, l, c, bs, e, hS⟩ := told8 hf'
  exact ⟨ao, l, c, bs, e, hS⟩
set_option maxRecDepth 100000 in
theorem told_cmd {H : Type} {enc : TypeId × Value → H} {w : World} {r : Reach} {b0 : Nat} {v : Value} {d : DataW H} {p : List MemPlace} (hv : Value.okWide Try.prog w r b0 23 v) (h : DataW.Trod enc Try.prog w 0 (fun _ => true) true 23 v d p) :
    ∃ (k c q : Int) (t : List UInt8), v = .agg #[.int .i64 k, .int .i64 c, .int .i64 q, tx t] ∧ I64 k ∧ I64 c ∧ I64 q ∧ t.length ≤ 9223372036854775807 := by
  obtain ⟨v0, v1, v2, v3, y0, y1, y2, y3, n, rfl, _, _, h0, h1, h2, h3⟩ := open_agg4 Try.underlying23 (by kernel_rfl) (by kernel_rfl) hv h
  obtain ⟨z0, e0, _, w0⟩ := DataW.trod_int Try.underlying3 h0
  obtain ⟨z1, e1, _, w1⟩ := DataW.trod_int Try.underlying3 h1
  obtain ⟨z2, e2, _, w2⟩ := DataW.trod_int Try.underlying2 h2
  obtain ⟨s, e3, _, hz⟩ := DataW.trod_string Try.underlying9 h3
  simp at e0 e1 e2 e3
  subst e0 e1 e2 e3
  have e4 : s.data.toList.length = s.size := Array.length_toList
  have hz' : s.size ≤ 9223372036854775807 := hz
  exact ⟨z0, z1, z2, s.data.toList, by simp [tx], bounds_i64 w0, bounds_i64 w1, bounds_i64 w2, by omega⟩

end Go.Proofs.Ytgknpbgepgmmmaa.Cm

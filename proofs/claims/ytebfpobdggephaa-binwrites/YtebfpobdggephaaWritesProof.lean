/- Proved: for every slice of Ops, BinWrites returns true, reads its argument alone and changes nothing that was there; no conditions. -/
import Derived.Test.YtebfpobdggephaaRows
import Derived.Test.YtebfpobdggephaaWrites
import Derived.WalkKit
import Derived.ProofKit
import Derived.OpenShut
import Derived.ShutString
import Derived.Deep.Slices
import Derived.Lib.SmallJoins
namespace Go.Proofs.Ytebfpobdggephaa.binWrites
open Go.ChangeShapes Go.WideShapes Go.ChangeAt Go.RowKit Go.Joins
open Go.ChangeMaps (open_string shut_string)
set_option linter.unusedVariables false

theorem own : ownKnob Try.prog.godebug = none := by kernel_rfl
theorem laidOut : laidOutB Try.prog = true := by kernel_rfl

theorem four_cells {w : World} {base : Nat} {a : Addr} {cs : List Value} (h : w.cells? base a 4 = some cs) :
    ∃ c0 c1 c2 c3, cs = [c0, c1, c2, c3] ∧ w.cell? (a.add 0) = some c0 ∧ w.cell? (a.add 1) = some c1 ∧ w.cell? (a.add 2) = some c2 ∧ w.cell? (a.add 3) = some c3 := by
  unfold World.cells? at h
  split at h
  · rw [show List.range 4 = [0, 1, 2, 3] from rfl] at h
    simp only [List.mapM_cons, List.mapM_nil, Option.bind_eq_bind, Option.pure_def] at h
    cases h0 : w.cell? (a.add 0) <;> rw [h0] at h <;> simp at h
    cases h1 : w.cell? (a.add 1) <;> rw [h1] at h <;> simp at h
    cases h2 : w.cell? (a.add 2) <;> rw [h2] at h <;> simp at h
    cases h3 : w.cell? (a.add 3) <;> rw [h3] at h <;> simp at h
    exact ⟨_, _, _, _, h.symm, rfl, rfl, rfl, rfl⟩
  · cases h

/-- A slice of bytes that is read, as its bytes. -/
theorem bytes_told {H : Type} {enc : TypeId × Value → H} {w : World} {fuel : Nat} {c : Value} {y : DataW H × List MemPlace} (h : DataW.trod enc Try.prog w 0 (fun _ => true) true fuel 25 [c] = some y) : ∃ bs, Sl w c bs := by
  rcases open_ints Try.underlying25 Try.underlying5 (by kernel_rfl) h with ⟨hcs, _⟩ | ⟨x, len, cap, zs, hcs, _, h1, h2, h3, _, h4, h5⟩
  · simp at hcs
    subst hcs
    exact ⟨[], Sl.nil w⟩
  · simp at hcs
    subst hcs
    have h3' : zs.length = cap := by simpa using h3
    have hl : ((zs.take len).map fun n => UInt8.ofNat n.toNat).length = len := by simp; omega
    refine ⟨(zs.take len).map fun n => UInt8.ofNat n.toNat, some x, cap, by rw [hl], by omega, h2, fun e => by simp at e, fun hp => ?_⟩
    rw [hl] at hp ⊢
    obtain ⟨b, off, rfl, hc⟩ := ints_at h4 (by omega)
    refine ⟨b, off, rfl, fun j hj => ?_⟩
    rw [hc j (by omega)]
    have hjz : j < zs.length := by omega
    have hb := bounds_u8 (h5 _ (List.getElem_mem hjz))
    have e1 : zs.getD j 0 = zs[j] := by simp [List.getD, List.getElem?_eq_getElem hjz]
    have e2 : ((zs.take len).map fun n => UInt8.ofNat n.toNat).getD j 0 = UInt8.ofNat (zs[j]).toNat := by
      simp [List.getD, hj, List.getElem?_eq_getElem hjz]
    unfold at8
    rw [e1, e2, toNat_lo (by omega)]
    congr 2
    omega

/-- One Op that is read. -/
theorem op_told {H : Type} {enc : TypeId × Value → H} {w : World} {fuel : Nat} {a : Addr} {cs : List Value} {y : DataW H × List MemPlace} (hc : w.cells? 0 a 4 = some cs) (h : DataW.trod enc Try.prog w 0 (fun _ => true) true fuel 30 cs = some y) :
    ∃ x : Int × Int × Value × List UInt8 × Bool, w.cell? (a.add 0) = some (.int .i64 x.1) ∧ w.cell? (a.add 1) = some (.int .i64 x.2.1) ∧ w.cell? (a.add 2) = some x.2.2.1 ∧ w.cell? (a.add 3) = some (.bool x.2.2.2.2) ∧
      Sl w x.2.2.1 x.2.2.2.1 ∧ -9223372036854775808 ≤ x.2.1 ∧ x.2.1 ≤ 9223372036854775807 := by
  obtain ⟨c0, c1, c2, c3, rfl, k0, k1, k2, k3⟩ := four_cells hc
  obtain ⟨y0, y1, y2, y3, n, _, _, h0, h1, h2, h3⟩ := trod_struct4 Try.underlying30 h
  rw [show Try.prog.cellsOf 3 = 1 from by kernel_rfl] at h0
  rw [show Try.prog.cellsOf 2 = 1 from by kernel_rfl] at h1
  rw [show Try.prog.cellsOf 25 = 1 from by kernel_rfl] at h2
  rw [show Try.prog.cellsOf 4 = 1 from by kernel_rfl] at h3
  simp only [List.drop_zero, List.take_succ_cons, List.take_zero, List.drop_succ_cons] at h0 h1 h2 h3
  obtain ⟨z0, e0, _, w0⟩ := DataW.trod_int Try.underlying3 h0
  obtain ⟨z1, e1, _, w1⟩ := DataW.trod_int Try.underlying2 h1
  obtain ⟨bs, hS⟩ := bytes_told h2
  obtain ⟨b3, e3, _⟩ := DataW.trod_bool Try.underlying4 h3
  simp at e0 e1 e3
  subst e0 e1 e3
  have bd := bounds_i64 w1
  exact ⟨(z0, z1, c2, bs, b3), k0, k1, k2, k3, hS, bd.1, bd.2⟩

theorem row_told {H : Type} {enc : TypeId × Value → H} {w : World} {fuel : Nat} {ao : Option Addr} {len cap : Nat} {y : DataW H × List MemPlace} (h : DataW.trod enc Try.prog w 0 (fun _ => true) true fuel 22 [.slice ao len cap] = some y) :
    ∃ kd nn vB bb ff, OpRow w ao len kd nn vB bb ff ∧ len ≤ maxLen := by
  rcases Deep.open_slice Try.underlying22 h with ⟨hcs, _⟩ | ⟨a, len', cap', m, n, D, Pl, hcs, _, hl, hm, hmm, _, hel⟩
  · simp at hcs
    obtain ⟨rfl, rfl, rfl⟩ := hcs
    exact ⟨fun _ => 0, fun _ => 0, fun _ => undef, fun _ => [], fun _ => false, fun h => by omega, by simp [maxLen]⟩
  · simp at hcs
    obtain ⟨rfl, rfl, rfl⟩ := hcs
    simp at hmm
    have hel' : ∀ i, i < len → ∃ x : Int × Int × Value × List UInt8 × Bool, w.cell? ((a.add (i * 4)).add 0) = some (.int .i64 x.1) ∧ w.cell? ((a.add (i * 4)).add 1) = some (.int .i64 x.2.1) ∧ w.cell? ((a.add (i * 4)).add 2) = some x.2.2.1 ∧ w.cell? ((a.add (i * 4)).add 3) = some (.bool x.2.2.2.2) ∧
        Sl w x.2.2.1 x.2.2.2.1 ∧ -9223372036854775808 ≤ x.2.1 ∧ x.2.1 ≤ 9223372036854775807 := by
      intro i hi
      obtain ⟨cs', hc, ht⟩ := hel i (by omega)
      rw [show Try.prog.cellsOf 30 = 4 from by kernel_rfl] at hc
      exact op_told hc ht
    obtain ⟨f, hf⟩ := Deep.choose_lt hel'
    refine ⟨fun j => (f j).1, fun j => (f j).2.1, fun j => (f j).2.2.1, fun j => (f j).2.2.2.1, fun j => (f j).2.2.2.2, fun hp => ?_, by omega⟩
    have h00 := (hf 0 hp).1
    obtain ⟨b, off, spot⟩ := a
    have hspot : spot = none := by
      have := World.cell?_spot h00
      simpa [Addr.add] using this
    subst hspot
    refine ⟨b, off, rfl, fun j hj => ?_⟩
    obtain ⟨g0, g1, g2, g3, g4, g5, g6⟩ := hf j hj
    rw [Addr.add_lit, Addr.add_lit] at g0 g1 g2 g3
    exact ⟨by simpa using g0, g1, g2, g3, g4, g5, g6⟩

set_option maxRecDepth 100000 in
theorem lifted (os : Os) (started : os.Started) (H : Type) (enc : TypeId × Value → H) :
    ReturnsInHanded {} Try.checked os 3 .any (Rows.binWritesSpec.pre6 enc Try.prog Try.f3 Rows.binWritesRow.domain false) (Rows.binWritesSpec.post enc Try.prog Try.f3 false true false false) := by
  refine returnsInHanded_of_change (C := Try.checked) own started (by kernel_rfl) Try.func3
    (ChangeSpec.witness6 (enc := enc) (C := Try.checked) false ⟨#[], #[.slice none 0 0], []⟩ 8 (by kernel_rfl) (by kernel_rfl) (by kernel_rfl) (by kernel_rfl)) ?_
  intro W base args ds gs before hval0 hW hcnd _
  have hval : ∀ (j : Nat) t v, Try.f3.params[j]? = some t → args[j]? = some v → Value.okWide Try.prog W .any base t v := hval0
  have hW' := hW
  obtain ⟨p, q, hA0, hV, rfl, hfz, hnd⟩ := hW
  have hA : DataW.TrodAll enc Try.prog W 0 (fun _ => true) true Try.f3.params.toList args.toList ds p := hA0
  rw [Try.params3] at hA hval
  obtain ⟨v0, vs0, d0, ds0, p0, q0, hargs, rfl, rfl, h0, r0⟩ := trodAll_cons hA
  obtain ⟨rfl, rfl, rfl⟩ := trodAll_nil r0
  obtain rfl : args = #[v0] := by cases args; simp_all
  obtain ⟨rfl, rfl⟩ := trodVars_none hV
  obtain ⟨a0, len0, cap0, rfl⟩ := okWide_slice Try.underlying22 (hval 0 22 v0 rfl rfl)
  have k0 := h0
  have lt0 : ∀ x ∈ p0, x.block < W.heap.size := by obtain ⟨m, hm⟩ := k0; exact DataW.trod_lt m _ _ _ hm
  obtain ⟨kd, nn, vB, bb, ff, t1, t2⟩ : ∃ kd nn vB bb ff, OpRow W a0 len0 kd nn vB bb ff ∧ len0 ≤ maxLen := by
    obtain ⟨fuel, hf⟩ := h0
    exact row_told hf
  clear hA0 hval0
  refine (binWrites_any a0 len0 cap0 kd nn vB bb ff W t1 t2).mono fun e W' ⟨he, bel⟩ => ?_
  subst he
  exact ⟨_, rfl, _, _, _, [], _, [], hW', trodAll_mk1 (shut_bool Try.underlying4 _), (trodAll_cons_mk (Below.trod laidOut (by kernel_rfl) (of_decide_eq_true (by kernel_rfl)) k0 bel lt0) trodAll_mk0), rfl, bel.frame _, fun h => by cases h⟩

theorem over : Rows.binWritesRow.holds Try.pinned (OpenSpec.ofChange Rows.binWritesSpec) :=
  OpenClaim.holds_of_wide 3 Try.f3 rfl rfl rfl rfl rfl rfl rfl ⟨rfl, rfl, rfl, rfl, rfl⟩ rfl rfl rfl rfl rfl (by kernel_rfl) Try.func3 (by kernel_rfl)
    (of_decide_eq_true (by kernel_rfl)) (by unfold Func.isWrapper; first | (rw [if_pos (by decide +kernel)]; kernel_rfl) | (rw [if_neg (by decide +kernel)]; exact ⟨rfl, rfl⟩))
    (fun os started H enc _ => lifted os started H enc)

theorem proved : Rows.BinWritesSaid := over
end Go.Proofs.Ytebfpobdggephaa.binWrites

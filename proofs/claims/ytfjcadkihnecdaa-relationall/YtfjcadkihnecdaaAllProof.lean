/- Proved: for any number and any calls, RelationAll returns true and changes nothing that was there; no conditions. -/
import Derived.Test.YtfjcadkihnecdaaRows
import Derived.Test.YtfjcadkihnecdaaPart11
import Derived.WalkKit
import Derived.ProofKit
import Derived.OpenShut
import Derived.ShutString
import Derived.ChangeOld
import Derived.Below
import Derived.Deep.SlicePairs
namespace Go.Proofs.Ytfjcadkihnecdaa.relationAll
open Go.ChangeShapes Go.WideShapes Go.ChangeAt Go.RowKit
open Go.ChangeMaps (open_string shut_string)
set_option linter.unusedVariables false

theorem laidOut : laidOutB Try.prog = true := by kernel_rfl
theorem own : ownKnob Try.prog.godebug = none := by kernel_rfl

theorem row_told {H : Type} {enc : TypeId × Value → H} {w : World} {fuel : Nat} {c : Value} {y : DataW H × List MemPlace} (h : DataW.trod enc Try.prog w 0 (fun _ => true) true fuel 27 [c] = some y) :
    ∃ q : List Int × Option Addr × Nat × Nat, c = .slice q.2.1 q.2.2.1 q.2.2.2 ∧ Is w (.slice q.2.1 q.2.2.1 q.2.2.2) q.1 ∧ (q.2.1 = none → q.2.2.2 = 0) ∧ ∀ x ∈ q.1, -9223372036854775808 ≤ x := by
  rcases open_ints Try.underlying27 Try.underlying3 (by kernel_rfl) h with ⟨hcs, _⟩ | ⟨a, len, cap, zs, hcs, _, h1, h2, h3, _, h4, h5⟩
  · simp at hcs
    exact ⟨([], none, 0, 0), hcs, ⟨none, 0, rfl, Nat.le_refl _, by simp [maxLen], fun h => by simp at h⟩, fun _ => rfl, by simp⟩
  · simp at hcs
    have h3' : zs.length = cap := by simpa using h3
    have hl : (zs.take len).length = len := by rw [List.length_take]; omega
    refine ⟨(zs.take len, some a, len, cap), hcs, ⟨some a, cap, by rw [hl], by rw [hl]; exact h1, h2, fun hp => ?_⟩, fun e => (by cases e), fun x hx => ?_⟩
    · rw [hl] at hp
      obtain ⟨b, off, spot⟩ := a
      have hspot : spot = none := by simpa [Addr.add] using World.cell?_spot (h4 0 (by omega))
      subst hspot
      refine ⟨b, off, rfl, fun j hj => ?_⟩
      rw [hl] at hj
      have hc := h4 j (by omega)
      rw [Go.WideShapes.add_plain] at hc
      rw [hc]
      simp [atI, List.getD, List.getElem?_take_of_lt hj]
    · have hw := h5 x (List.mem_of_mem_take hx)
      have h6 : IntKind.i64.min = -9223372036854775808 := by kernel_rfl
      simp [Lit.wf, h6] at hw
      omega

theorem ops_told {H : Type} {enc : TypeId × Value → H} {w : World} {fuel : Nat} {c : Value} {y : DataW H × List MemPlace} (h : DataW.trod enc Try.prog w 0 (fun _ => true) true fuel 22 [c] = some y) :
    ∃ L, Go.Proofs.Ytfjcadkihnecdaa.Os w c L := by
  rcases Go.Deep.open_slice_pairs Try.underlying22 Try.underlying29 (by kernel_rfl) rfl rfl (by kernel_rfl) (by kernel_rfl) h with ⟨hcs, _⟩ | ⟨a, len, cap, m, n, V0, V1, D0, D1, P0, P1, hcs, _, hlc, hcm, hmm, hy, hel⟩
  · simp at hcs
    subst hcs
    exact ⟨[], none, 0, rfl, by simp, fun h => by simp at h⟩
  · simp at hcs
    subst hcs
    simp at hmm
    have each : ∀ i, i < len → ∃ q : Int × List Int × Option Addr × Nat × Nat, w.cell? (a.add (i * 2)) = some (.int .i64 q.1) ∧ w.cell? (a.add (i * 2 + 1)) = some (.slice q.2.2.1 q.2.2.2.1 q.2.2.2.2) ∧ Is w (.slice q.2.2.1 q.2.2.2.1 q.2.2.2.2) q.2.1 ∧ (q.2.2.1 = none → q.2.2.2.2 = 0) ∧ ∀ x ∈ q.2.1, -9223372036854775808 ≤ x := by
      intro i hi
      obtain ⟨k0, k1, t0, t1⟩ := hel i (by omega)
      obtain ⟨z, e0, _, _⟩ := DataW.trod_int Try.underlying3 t0
      simp only [List.cons.injEq, and_true] at e0
      obtain ⟨q, hq1, hq2, hq3, hq4⟩ := row_told t1
      exact ⟨(z, q), by rw [k0, e0], by rw [k1, hq1], hq2, hq3, hq4⟩
    obtain ⟨q, hq⟩ := Go.Deep.choose_lt each
    have hlen : ((List.range len).map fun i => ((q i).1, (q i).2.1)).length = len := by simp
    refine ⟨(List.range len).map fun i => ((q i).1, (q i).2.1), some a, cap, by rw [hlen], by rw [hlen]; simp only [maxLen] at hcm; omega, fun hp => ?_⟩
    rw [hlen] at hp
    obtain ⟨b, off, spot⟩ := a
    have hspot : spot = none := by simpa [Addr.add] using World.cell?_spot (hq 0 hp).1
    subst hspot
    refine ⟨b, off, rfl, fun i hi => ?_⟩
    have hi' : i < len := by simpa using hi
    obtain ⟨h0, h1, h2, h3, h4⟩ := hq i hi'
    rw [Go.WideShapes.add_plain] at h0 h1
    simp only [List.getElem_map, List.getElem_range]
    exact ⟨h0, _, _, _, h1, h2, h3, h4⟩

set_option maxRecDepth 100000 in
theorem lifted (os : Go.Os) (started : os.Started) (H : Type) (enc : TypeId × Value → H) :
    ReturnsInHanded {} Try.checked os 3 .any (Rows.relationAllSpec.pre6 enc Try.prog Try.f3 Rows.relationAllRow.domain false) (Rows.relationAllSpec.post enc Try.prog Try.f3 false true false false) := by
  refine returnsInHanded_of_change (C := Try.checked) own started (by kernel_rfl) Try.func3
    (ChangeSpec.witness6 (enc := enc) (C := Try.checked) false ⟨#[], #[.int .i64 0, .slice none 0 0], []⟩ 8 (by kernel_rfl) (by kernel_rfl) (by kernel_rfl) (by kernel_rfl)) ?_
  intro W base args ds gs before hval0 hW hcnd _
  have hval : ∀ (j : Nat) t v, Try.f3.params[j]? = some t → args[j]? = some v → Value.okWide Try.prog W .any base t v := hval0
  have hW' := hW
  obtain ⟨p, q, hA0, hV, rfl, hfz, hnd⟩ := hW
  have hA : DataW.TrodAll enc Try.prog W 0 (fun _ => true) true Try.f3.params.toList args.toList ds p := hA0
  rw [Try.params3] at hA hval
  obtain ⟨v0, vs0, d0, ds0, p0, q0, hargs, rfl, rfl, h0, r0⟩ := trodAll_cons hA
  obtain ⟨v1, vs1, d1, ds1, p1, q1, rfl, rfl, rfl, h1, r1⟩ := trodAll_cons r0
  obtain ⟨rfl, rfl, rfl⟩ := trodAll_nil r1
  obtain rfl : args = #[v0, v1] := by cases args; simp_all
  obtain ⟨rfl, rfl⟩ := trodVars_none hV
  obtain ⟨a1, len1, cap1, rfl⟩ := okWide_slice Try.underlying22 (hval 1 22 v1 rfl rfl)
  have k0 := h0
  have k1 := h1
  have lt0 : ∀ x ∈ p0, x.block < W.heap.size := by obtain ⟨m, hm⟩ := k0; exact DataW.trod_lt m _ _ _ hm
  have lt1 : ∀ x ∈ p1, x.block < W.heap.size := by obtain ⟨m, hm⟩ := k1; exact DataW.trod_lt m _ _ _ hm
  obtain ⟨x0, rfl, rfl, rfl, wx0⟩ := open_int Try.underlying3 (hval 0 3 v0 rfl rfl) h0
  obtain ⟨L, t1⟩ : ∃ L, Go.Proofs.Ytfjcadkihnecdaa.Os W (.slice a1 len1 cap1) L := by
    obtain ⟨fuel, hf⟩ := h1
    exact ops_told hf
  clear hA0 hval0
  refine (all_law x0 _ L W t1).mono fun e W' ⟨he, bel⟩ => ?_
  subst he
  exact ⟨_, rfl, _, _, _, [], _, [], hW', trodAll_mk1 (shut_bool Try.underlying4 _), (trodAll_cons_mk (Below.trod laidOut (by kernel_rfl) (of_decide_eq_true (by kernel_rfl)) k0 bel lt0) (trodAll_cons_mk (Below.trod laidOut (by kernel_rfl) (of_decide_eq_true (by kernel_rfl)) k1 bel lt1) trodAll_mk0)), rfl, bel.frame _, fun h => by cases h⟩

theorem over : Rows.relationAllRow.holds Try.pinned (OpenSpec.ofChange Rows.relationAllSpec) :=
  OpenClaim.holds_of_wide 3 Try.f3 rfl rfl rfl rfl rfl rfl rfl ⟨rfl, rfl, rfl, rfl, rfl⟩ rfl rfl rfl rfl rfl (by kernel_rfl) Try.func3 (by kernel_rfl)
    (of_decide_eq_true (by kernel_rfl)) (by unfold Func.isWrapper; first | (rw [if_pos (by decide +kernel)]; kernel_rfl) | (rw [if_neg (by decide +kernel)]; exact ⟨rfl, rfl⟩))
    (fun os started H enc _ => lifted os started H enc)

theorem proved : Rows.RelationAllSaid :=
  over
end Go.Proofs.Ytfjcadkihnecdaa.relationAll

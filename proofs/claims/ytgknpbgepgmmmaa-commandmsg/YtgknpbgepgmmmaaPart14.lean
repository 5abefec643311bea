/- ReadMsg: steps. ReadMsg: steps. ReadMsg: steps. ReadMsg: steps. readMsg. -/
import Derived.Test.YtgknpbgepgmmmaaPart13
namespace Go.Proofs.Ytgknpbgepgmmmaa.Cm
open Go.RowKit Bn Kp

set_option linter.unusedSimpArgs false in
set_option maxRecDepth 8000 in
set_option maxHeartbeats 4000000 in
theorem step24_0_67 (c : Rd24) (Q : Exit → Act → World → Prop) : ∀ a W, T24 c 0 a W → wpOp Try.prog ops24 Q 67 (fun a2 w2 => Sx c.A c.B w2 ∧ T24 c 17 a2 w2) a W := by
  rintro a w9 ⟨rfl, q⟩
  have d := q.s
  refine wpOp_step (o := { dst := some 5, op := Op.alloc 54, type := 0, pos := "message.go:37", after := #[], guard := none }) rfl (fun K hK => ?_)
  replace hK := hide hK
  go_simp
  exact hK.out _ _ ⟨(q.alloc _).s, _, rfl, q.alloc _⟩

set_option linter.unusedSimpArgs false in
set_option maxRecDepth 8000 in
set_option maxHeartbeats 4000000 in
theorem step24_3_19 (c : Rd24) (Q : Exit → Act → World → Prop) : ∀ a W, T24 c 3 a W → wpOp Try.prog ops24 Q 19 (fun a2 w2 => Sx c.A c.B w2 ∧ T24 c 4 a2 w2) a W := by
  rintro a w9 ⟨rfl, q⟩
  have d := q.s
  refine wpOp_step (o := { dst := some 27, op := Op.call { callee := Callee.value (Operand.func 35), args := #[Operand.tmp 26], argTypes := #[78] }, type := 2, pos := "message.go:41", after := #[{ on := 18, ground := Ground.data }, { on := 14, ground := Ground.chain }], guard := none }) rfl (fun K hK => ?_)
  replace hK := hide hK
  go_simp
  go_wp2_with fail
  refine Calls.mono (qnumQ c.e3 q) ?_
  clear q d
  rintro e w10 ⟨rfl, q⟩
  have d := q.s
  go_wp2_with fail
  exact hK.out _ _ ⟨d, rfl, q⟩

set_option linter.unusedSimpArgs false in
set_option maxRecDepth 8000 in
set_option maxHeartbeats 4000000 in
theorem step24_5_67 (c : Rd24) (Q : Exit → Act → World → Prop) : ∀ a W, T24 c 5 a W → wpOp Try.prog ops24 Q 67 (fun a2 w2 => Sx c.A c.B w2 ∧ T24 c 22 a2 w2) a W := by
  rintro a w9 ⟨rfl, q⟩
  have d := q.s
  refine wpOp_step (o := { dst := some 5, op := Op.alloc 54, type := 0, pos := "message.go:37", after := #[], guard := none }) rfl (fun K hK => ?_)
  replace hK := hide hK
  go_simp
  exact hK.out _ _ ⟨(q.alloc _).s, _, rfl, q.alloc _⟩

set_option linter.unusedSimpArgs false in
set_option maxRecDepth 8000 in
set_option maxHeartbeats 4000000 in
theorem step24_8_41 (c : Rd24) (Q : Exit → Act → World → Prop) : ∀ a W, T24 c 8 a W → wpOp Try.prog ops24 Q 41 (fun a2 w2 => Sx c.A c.B w2 ∧ T24 c 9 a2 w2) a W := by
  rintro a w9 ⟨aes, les, ces, rfl, q⟩
  have d := q.s
  refine wpOp_step (o := { dst := some 49, op := Op.call { callee := Callee.value (Operand.func 43), args := #[Operand.tmp 48], argTypes := #[78] }, type := 4, pos := "message.go:46", after := #[{ on := 40, ground := Ground.data }, { on := 36, ground := Ground.chain }], guard := none }) rfl (fun K hK => ?_)
  replace hK := hide hK
  go_simp
  go_wp2_with fail
  refine Calls.mono (qflagQ c.e8 q) ?_
  clear q d
  rintro e w10 ⟨rfl, q⟩
  have d := q.s
  go_wp2_with fail
  exact hK.out _ _ ⟨d, aes, les, ces, rfl, q⟩

set_option linter.unusedSimpArgs false in
set_option maxRecDepth 8000 in
set_option maxHeartbeats 4000000 in
theorem step24_10_67 (c : Rd24) (Q : Exit → Act → World → Prop) : ∀ a W, T24 c 10 a W → wpOp Try.prog ops24 Q 67 (fun a2 w2 => Sx c.A c.B w2 ∧ T24 c 27 a2 w2) a W := by
  rintro a w9 ⟨aes, les, ces, rfl, q⟩
  have d := q.s
  refine wpOp_step (o := { dst := some 5, op := Op.alloc 54, type := 0, pos := "message.go:37", after := #[], guard := none }) rfl (fun K hK => ?_)
  replace hK := hide hK
  go_simp
  exact hK.out _ _ ⟨(q.alloc _).s, aes, les, ces, _, rfl, q.alloc _⟩

set_option linter.unusedSimpArgs false in
set_option maxRecDepth 8000 in
set_option maxHeartbeats 4000000 in
theorem step24_13_60 (c : Rd24) (Q : Exit → Act → World → Prop) : ∀ a W, T24 c 13 a W → wpOp Try.prog ops24 Q 60 (fun a2 w2 => Sx c.A c.B w2 ∧ T24 c 14 a2 w2) a W := by
  rintro a w9 ⟨aes, les, ces, acf, lcf, ccf, adt, ldt, cdt, rfl, q⟩
  have d := q.s
  refine wpOp_step (o := { dst := some 68, op := Op.call { callee := Callee.value (Operand.func 35), args := #[Operand.tmp 67], argTypes := #[78] }, type := 2, pos := "message.go:51", after := #[{ on := 59, ground := Ground.data }, { on := 55, ground := Ground.chain }], guard := none }) rfl (fun K hK => ?_)
  replace hK := hide hK
  go_simp
  go_wp2_with fail
  refine Calls.mono (qnumQ c.e13 q) ?_
  clear q d
  rintro e w10 ⟨rfl, q⟩
  have d := q.s
  go_wp2_with fail
  exact hK.out _ _ ⟨d, aes, les, ces, acf, lcf, ccf, adt, ldt, cdt, rfl, q⟩

set_option linter.unusedSimpArgs false in
set_option maxRecDepth 8000 in
set_option maxHeartbeats 4000000 in
theorem step24_15_67 (c : Rd24) (Q : Exit → Act → World → Prop) : ∀ a W, T24 c 15 a W → wpOp Try.prog ops24 Q 67 (fun a2 w2 => Sx c.A c.B w2 ∧ T24 c 32 a2 w2) a W := by
  rintro a w9 ⟨aes, les, ces, acf, lcf, ccf, adt, ldt, cdt, rfl, q⟩
  have d := q.s
  refine wpOp_step (o := { dst := some 5, op := Op.alloc 54, type := 0, pos := "message.go:37", after := #[], guard := none }) rfl (fun K hK => ?_)
  replace hK := hide hK
  go_simp
  exact hK.out _ _ ⟨(q.alloc _).s, aes, les, ces, acf, lcf, ccf, adt, ldt, cdt, _, rfl, q.alloc _⟩

set_option linter.unusedSimpArgs false in
set_option maxRecDepth 8000 in
set_option maxHeartbeats 4000000 in
theorem step24_20_19 (c : Rd24) (Q : Exit → Act → World → Prop) : ∀ a W, T24 c 20 a W → wpOp Try.prog ops24 Q 19 (fun a2 w2 => Sx c.A c.B w2 ∧ T24 c 21 a2 w2) a W := by
  rintro a w9 ⟨P, rfl, q⟩
  have d := q.s
  refine wpOp_step (o := { dst := some 27, op := Op.call { callee := Callee.value (Operand.func 35), args := #[Operand.tmp 26], argTypes := #[78] }, type := 2, pos := "message.go:41", after := #[{ on := 18, ground := Ground.data }, { on := 14, ground := Ground.chain }], guard := none }) rfl (fun K hK => ?_)
  replace hK := hide hK
  go_simp
  go_wp2_with fail
  refine Calls.mono (qnumQ c.e3 q) ?_
  clear q d
  rintro e w10 ⟨rfl, q⟩
  have d := q.s
  go_wp2_with fail
  exact hK.out _ _ ⟨d, P, rfl, q⟩

set_option linter.unusedSimpArgs false in
set_option maxRecDepth 8000 in
set_option maxHeartbeats 4000000 in
theorem step24_25_41 (c : Rd24) (Q : Exit → Act → World → Prop) : ∀ a W, T24 c 25 a W → wpOp Try.prog ops24 Q 41 (fun a2 w2 => Sx c.A c.B w2 ∧ T24 c 26 a2 w2) a W := by
  rintro a w9 ⟨aes, les, ces, P, rfl, q⟩
  have d := q.s
  refine wpOp_step (o := { dst := some 49, op := Op.call { callee := Callee.value (Operand.func 43), args := #[Operand.tmp 48], argTypes := #[78] }, type := 4, pos := "message.go:46", after := #[{ on := 40, ground := Ground.data }, { on := 36, ground := Ground.chain }], guard := none }) rfl (fun K hK => ?_)
  replace hK := hide hK
  go_simp
  go_wp2_with fail
  refine Calls.mono (qflagQ c.e8 q) ?_
  clear q d
  rintro e w10 ⟨rfl, q⟩
  have d := q.s
  go_wp2_with fail
  exact hK.out _ _ ⟨d, aes, les, ces, P, rfl, q⟩

set_option linter.unusedSimpArgs false in
set_option maxRecDepth 8000 in
set_option maxHeartbeats 4000000 in
theorem step24_30_60 (c : Rd24) (Q : Exit → Act → World → Prop) : ∀ a W, T24 c 30 a W → wpOp Try.prog ops24 Q 60 (fun a2 w2 => Sx c.A c.B w2 ∧ T24 c 31 a2 w2) a W := by
  rintro a w9 ⟨aes, les, ces, acf, lcf, ccf, adt, ldt, cdt, P, rfl, q⟩
  have d := q.s
  refine wpOp_step (o := { dst := some 68, op := Op.call { callee := Callee.value (Operand.func 35), args := #[Operand.tmp 67], argTypes := #[78] }, type := 2, pos := "message.go:51", after := #[{ on := 59, ground := Ground.data }, { on := 55, ground := Ground.chain }], guard := none }) rfl (fun K hK => ?_)
  replace hK := hide hK
  go_simp
  go_wp2_with fail
  refine Calls.mono (qnumQ c.e13 q) ?_
  clear q d
  rintro e w10 ⟨rfl, q⟩
  have d := q.s
  go_wp2_with fail
  exact hK.out _ _ ⟨d, aes, les, ces, acf, lcf, ccf, adt, ldt, cdt, P, rfl, q⟩

end Go.Proofs.Ytgknpbgepgmmmaa.Cm
namespace Go.Proofs.Ytgknpbgepgmmmaa.Cm
open Go.RowKit Bn Kp

set_option linter.unusedSimpArgs false in
set_option maxRecDepth 8000 in
set_option maxHeartbeats 4000000 in
theorem step24_1_9 (c : Rd24) (Q : Exit → Act → World → Prop) : ∀ a W, T24 c 1 a W → wpOp Try.prog ops24 Q 9 (fun a2 w2 => Sx c.A c.B w2 ∧ T24 c 2 a2 w2) a W := by
  rintro a w9 ⟨rfl, q⟩
  have d := q.s
  refine wpOp_step (o := { dst := some 17, op := Op.call { callee := Callee.value (Operand.func 35), args := #[Operand.tmp 16], argTypes := #[78] }, type := 2, pos := "message.go:39", after := #[{ on := 8, ground := Ground.data }, { on := 4, ground := Ground.chain }], guard := none }) rfl (fun K hK => ?_)
  replace hK := hide hK
  go_simp
  go_wp2_with fail
  refine Calls.mono (qnumQ c.e1 q) ?_
  clear q d
  rintro e w10 ⟨rfl, q⟩
  have d := q.s
  go_wp2_with fail
  exact hK.out _ _ ⟨d, rfl, q⟩

set_option linter.unusedSimpArgs false in
set_option maxRecDepth 8000 in
set_option maxHeartbeats 4000000 in
theorem step24_3_67 (c : Rd24) (Q : Exit → Act → World → Prop) : ∀ a W, T24 c 3 a W → wpOp Try.prog ops24 Q 67 (fun a2 w2 => Sx c.A c.B w2 ∧ T24 c 20 a2 w2) a W := by
  rintro a w9 ⟨rfl, q⟩
  have d := q.s
  refine wpOp_step (o := { dst := some 5, op := Op.alloc 54, type := 0, pos := "message.go:37", after := #[], guard := none }) rfl (fun K hK => ?_)
  replace hK := hide hK
  go_simp
  exact hK.out _ _ ⟨(q.alloc _).s, _, rfl, q.alloc _⟩

set_option linter.unusedSimpArgs false in
set_option maxRecDepth 8000 in
set_option maxHeartbeats 4000000 in
theorem step24_6_34 (c : Rd24) (Q : Exit → Act → World → Prop) : ∀ a W, T24 c 6 a W → wpOp Try.prog ops24 Q 34 (fun a2 w2 => Sx c.A c.B w2 ∧ T24 c 7 a2 w2) a W := by
  rintro a w9 ⟨rfl, q⟩
  have d := q.s
  refine wpOp_step (o := { dst := some 42, op := Op.call { callee := Callee.value (Operand.func 35), args := #[Operand.tmp 41], argTypes := #[78] }, type := 2, pos := "message.go:44", after := #[{ on := 33, ground := Ground.data }, { on := 29, ground := Ground.chain }], guard := none }) rfl (fun K hK => ?_)
  replace hK := hide hK
  go_simp
  go_wp2_with fail
  refine Calls.mono (qnumQ c.e6 q) ?_
  clear q d
  rintro e w10 ⟨rfl, q⟩
  have d := q.s
  go_wp2_with fail
  exact hK.out _ _ ⟨d, rfl, q⟩

set_option linter.unusedSimpArgs false in
set_option maxRecDepth 8000 in
set_option maxHeartbeats 4000000 in
theorem step24_8_67 (c : Rd24) (Q : Exit → Act → World → Prop) : ∀ a W, T24 c 8 a W → wpOp Try.prog ops24 Q 67 (fun a2 w2 => Sx c.A c.B w2 ∧ T24 c 25 a2 w2) a W := by
  rintro a w9 ⟨aes, les, ces, rfl, q⟩
  have d := q.s
  refine wpOp_step (o := { dst := some 5, op := Op.alloc 54, type := 0, pos := "message.go:37", after := #[], guard := none }) rfl (fun K hK => ?_)
  replace hK := hide hK
  go_simp
  exact hK.out _ _ ⟨(q.alloc _).s, aes, les, ces, _, rfl, q.alloc _⟩

set_option linter.unusedSimpArgs false in
set_option maxRecDepth 8000 in
set_option maxHeartbeats 4000000 in
theorem step24_11_50 (c : Rd24) (Q : Exit → Act → World → Prop) : ∀ a W, T24 c 11 a W → wpOp Try.prog ops24 Q 50 (fun a2 w2 => Sx c.A c.B w2 ∧ T24 c 12 a2 w2) a W := by
  rintro a w9 ⟨aes, les, ces, acf, lcf, ccf, rfl, q⟩
  have d := q.s
  refine wpOp_step (o := { dst := some 58, op := Op.call { callee := Callee.value (Operand.func 55), args := #[Operand.tmp 57], argTypes := #[76] }, type := 24, pos := "message.go:49", after := #[{ on := 49, ground := Ground.data }, { on := 48, ground := Ground.chain }], guard := none }) rfl (fun K hK => ?_)
  replace hK := hide hK
  go_simp
  go_wp2_with fail
  refine Calls.mono (qdataQ c.e11 q) ?_
  clear q d
  rintro e w10 ⟨adt, ldt, cdt, rfl, q⟩
  have d := q.s
  go_wp2_with fail
  exact hK.out _ _ ⟨d, aes, les, ces, acf, lcf, ccf, adt, ldt, cdt, rfl, q⟩

set_option linter.unusedSimpArgs false in
set_option maxRecDepth 8000 in
set_option maxHeartbeats 4000000 in
theorem step24_13_67 (c : Rd24) (Q : Exit → Act → World → Prop) : ∀ a W, T24 c 13 a W → wpOp Try.prog ops24 Q 67 (fun a2 w2 => Sx c.A c.B w2 ∧ T24 c 30 a2 w2) a W := by
  rintro a w9 ⟨aes, les, ces, acf, lcf, ccf, adt, ldt, cdt, rfl, q⟩
  have d := q.s
  refine wpOp_step (o := { dst := some 5, op := Op.alloc 54, type := 0, pos := "message.go:37", after := #[], guard := none }) rfl (fun K hK => ?_)
  replace hK := hide hK
  go_simp
  exact hK.out _ _ ⟨(q.alloc _).s, aes, les, ces, acf, lcf, ccf, adt, ldt, cdt, _, rfl, q.alloc _⟩

set_option linter.unusedSimpArgs false in
set_option maxRecDepth 8000 in
set_option maxHeartbeats 4000000 in
theorem step24_16_67 (c : Rd24) (Q : Exit → Act → World → Prop) : ∀ a W, T24 c 16 a W → wpOp Try.prog ops24 Q 67 (fun a2 w2 => Sx c.A c.B w2 ∧ T24 c 33 a2 w2) a W := by
  rintro a w9 ⟨aes, les, ces, acf, lcf, ccf, adt, ldt, cdt, rfl, q⟩
  have d := q.s
  refine wpOp_step (o := { dst := some 5, op := Op.alloc 54, type := 0, pos := "message.go:37", after := #[], guard := none }) rfl (fun K hK => ?_)
  replace hK := hide hK
  go_simp
  exact hK.out _ _ ⟨(q.alloc _).s, aes, les, ces, acf, lcf, ccf, adt, ldt, cdt, _, rfl, q.alloc _⟩

set_option linter.unusedSimpArgs false in
set_option maxRecDepth 8000 in
set_option maxHeartbeats 4000000 in
theorem step24_21_24 (c : Rd24) (Q : Exit → Act → World → Prop) : ∀ a W, T24 c 21 a W → wpOp Try.prog ops24 Q 24 (fun a2 w2 => Sx c.A c.B w2 ∧ T24 c 22 a2 w2) a W := by
  rintro a w9 ⟨P, rfl, q⟩
  have d := q.s
  refine wpOp_step (o := { dst := some 32, op := Op.call { callee := Callee.value (Operand.func 35), args := #[Operand.tmp 31], argTypes := #[78] }, type := 2, pos := "message.go:42", after := #[{ on := 23, ground := Ground.data }, { on := 19, ground := Ground.chain }], guard := none }) rfl (fun K hK => ?_)
  replace hK := hide hK
  go_simp
  go_wp2_with fail
  refine Calls.mono (qnumQ c.e4 q) ?_
  clear q d
  rintro e w10 ⟨rfl, q⟩
  have d := q.s
  go_wp2_with fail
  exact hK.out _ _ ⟨d, P, rfl, q⟩

set_option linter.unusedSimpArgs false in
set_option maxRecDepth 8000 in
set_option maxHeartbeats 4000000 in
theorem step24_26_46 (c : Rd24) (Q : Exit → Act → World → Prop) : ∀ a W, T24 c 26 a W → wpOp Try.prog ops24 Q 46 (fun a2 w2 => Sx c.A c.B w2 ∧ T24 c 27 a2 w2) a W := by
  rintro a w9 ⟨aes, les, ces, P, rfl, q⟩
  have d := q.s
  refine wpOp_step (o := { dst := some 54, op := Op.call { callee := Callee.value (Operand.func 35), args := #[Operand.tmp 53], argTypes := #[78] }, type := 2, pos := "message.go:47", after := #[{ on := 45, ground := Ground.data }, { on := 41, ground := Ground.chain }], guard := none }) rfl (fun K hK => ?_)
  replace hK := hide hK
  go_simp
  go_wp2_with fail
  refine Calls.mono (qnumQ c.e9 q) ?_
  clear q d
  rintro e w10 ⟨rfl, q⟩
  have d := q.s
  go_wp2_with fail
  exact hK.out _ _ ⟨d, aes, les, ces, P, rfl, q⟩

set_option linter.unusedSimpArgs false in
set_option maxRecDepth 8000 in
set_option maxHeartbeats 4000000 in
theorem step24_31_65 (c : Rd24) (Q : Exit → Act → World → Prop) : ∀ a W, T24 c 31 a W → wpOp Try.prog ops24 Q 65 (fun a2 w2 => Sx c.A c.B w2 ∧ T24 c 32 a2 w2) a W := by
  rintro a w9 ⟨aes, les, ces, acf, lcf, ccf, adt, ldt, cdt, P, rfl, q⟩
  have d := q.s
  refine wpOp_step (o := { dst := some 73, op := Op.call { callee := Callee.value (Operand.func 35), args := #[Operand.tmp 72], argTypes := #[78] }, type := 2, pos := "message.go:52", after := #[{ on := 64, ground := Ground.data }, { on := 60, ground := Ground.chain }], guard := none }) rfl (fun K hK => ?_)
  replace hK := hide hK
  go_simp
  go_wp2_with fail
  refine Calls.mono (qnumQ c.e14 q) ?_
  clear q d
  rintro e w10 ⟨rfl, q⟩
  have d := q.s
  go_wp2_with fail
  exact hK.out _ _ ⟨d, aes, les, ces, acf, lcf, ccf, adt, ldt, cdt, P, rfl, q⟩

end Go.Proofs.Ytgknpbgepgmmmaa.Cm
namespace Go.Proofs.Ytgknpbgepgmmmaa.Cm
open Go.RowKit Bn Kp

set_option linter.unusedSimpArgs false in
set_option maxRecDepth 8000 in
set_option maxHeartbeats 4000000 in
theorem step24_1_67 (c : Rd24) (Q : Exit → Act → World → Prop) : ∀ a W, T24 c 1 a W → wpOp Try.prog ops24 Q 67 (fun a2 w2 => Sx c.A c.B w2 ∧ T24 c 18 a2 w2) a W := by
  rintro a w9 ⟨rfl, q⟩
  have d := q.s
  refine wpOp_step (o := { dst := some 5, op := Op.alloc 54, type := 0, pos := "message.go:37", after := #[], guard := none }) rfl (fun K hK => ?_)
  replace hK := hide hK
  go_simp
  exact hK.out _ _ ⟨(q.alloc _).s, _, rfl, q.alloc _⟩

set_option linter.unusedSimpArgs false in
set_option maxRecDepth 8000 in
set_option maxHeartbeats 4000000 in
theorem step24_4_24 (c : Rd24) (Q : Exit → Act → World → Prop) : ∀ a W, T24 c 4 a W → wpOp Try.prog ops24 Q 24 (fun a2 w2 => Sx c.A c.B w2 ∧ T24 c 5 a2 w2) a W := by
  rintro a w9 ⟨rfl, q⟩
  have d := q.s
  refine wpOp_step (o := { dst := some 32, op := Op.call { callee := Callee.value (Operand.func 35), args := #[Operand.tmp 31], argTypes := #[78] }, type := 2, pos := "message.go:42", after := #[{ on := 23, ground := Ground.data }, { on := 19, ground := Ground.chain }], guard := none }) rfl (fun K hK => ?_)
  replace hK := hide hK
  go_simp
  go_wp2_with fail
  refine Calls.mono (qnumQ c.e4 q) ?_
  clear q d
  rintro e w10 ⟨rfl, q⟩
  have d := q.s
  go_wp2_with fail
  exact hK.out _ _ ⟨d, rfl, q⟩

set_option linter.unusedSimpArgs false in
set_option maxRecDepth 8000 in
set_option maxHeartbeats 4000000 in
theorem step24_6_67 (c : Rd24) (Q : Exit → Act → World → Prop) : ∀ a W, T24 c 6 a W → wpOp Try.prog ops24 Q 67 (fun a2 w2 => Sx c.A c.B w2 ∧ T24 c 23 a2 w2) a W := by
  rintro a w9 ⟨rfl, q⟩
  have d := q.s
  refine wpOp_step (o := { dst := some 5, op := Op.alloc 54, type := 0, pos := "message.go:37", after := #[], guard := none }) rfl (fun K hK => ?_)
  replace hK := hide hK
  go_simp
  exact hK.out _ _ ⟨(q.alloc _).s, _, rfl, q.alloc _⟩

set_option linter.unusedSimpArgs false in
set_option maxRecDepth 8000 in
set_option maxHeartbeats 4000000 in
theorem step24_9_46 (c : Rd24) (Q : Exit → Act → World → Prop) : ∀ a W, T24 c 9 a W → wpOp Try.prog ops24 Q 46 (fun a2 w2 => Sx c.A c.B w2 ∧ T24 c 10 a2 w2) a W := by
  rintro a w9 ⟨aes, les, ces, rfl, q⟩
  have d := q.s
  refine wpOp_step (o := { dst := some 54, op := Op.call { callee := Callee.value (Operand.func 35), args := #[Operand.tmp 53], argTypes := #[78] }, type := 2, pos := "message.go:47", after := #[{ on := 45, ground := Ground.data }, { on := 41, ground := Ground.chain }], guard := none }) rfl (fun K hK => ?_)
  replace hK := hide hK
  go_simp
  go_wp2_with fail
  refine Calls.mono (qnumQ c.e9 q) ?_
  clear q d
  rintro e w10 ⟨rfl, q⟩
  have d := q.s
  go_wp2_with fail
  exact hK.out _ _ ⟨d, aes, les, ces, rfl, q⟩

set_option linter.unusedSimpArgs false in
set_option maxRecDepth 8000 in
set_option maxHeartbeats 4000000 in
theorem step24_11_67 (c : Rd24) (Q : Exit → Act → World → Prop) : ∀ a W, T24 c 11 a W → wpOp Try.prog ops24 Q 67 (fun a2 w2 => Sx c.A c.B w2 ∧ T24 c 28 a2 w2) a W := by
  rintro a w9 ⟨aes, les, ces, acf, lcf, ccf, rfl, q⟩
  have d := q.s
  refine wpOp_step (o := { dst := some 5, op := Op.alloc 54, type := 0, pos := "message.go:37", after := #[], guard := none }) rfl (fun K hK => ?_)
  replace hK := hide hK
  go_simp
  exact hK.out _ _ ⟨(q.alloc _).s, aes, les, ces, acf, lcf, ccf, _, rfl, q.alloc _⟩

set_option linter.unusedSimpArgs false in
set_option maxRecDepth 8000 in
set_option maxHeartbeats 4000000 in
theorem step24_14_65 (c : Rd24) (Q : Exit → Act → World → Prop) : ∀ a W, T24 c 14 a W → wpOp Try.prog ops24 Q 65 (fun a2 w2 => Sx c.A c.B w2 ∧ T24 c 15 a2 w2) a W := by
  rintro a w9 ⟨aes, les, ces, acf, lcf, ccf, adt, ldt, cdt, rfl, q⟩
  have d := q.s
  refine wpOp_step (o := { dst := some 73, op := Op.call { callee := Callee.value (Operand.func 35), args := #[Operand.tmp 72], argTypes := #[78] }, type := 2, pos := "message.go:52", after := #[{ on := 64, ground := Ground.data }, { on := 60, ground := Ground.chain }], guard := none }) rfl (fun K hK => ?_)
  replace hK := hide hK
  go_simp
  go_wp2_with fail
  refine Calls.mono (qnumQ c.e14 q) ?_
  clear q d
  rintro e w10 ⟨rfl, q⟩
  have d := q.s
  go_wp2_with fail
  exact hK.out _ _ ⟨d, aes, les, ces, acf, lcf, ccf, adt, ldt, cdt, rfl, q⟩

set_option linter.unusedSimpArgs false in
set_option maxRecDepth 8000 in
set_option maxHeartbeats 4000000 in
theorem step24_17_4 (c : Rd24) (Q : Exit → Act → World → Prop) : ∀ a W, T24 c 17 a W → wpOp Try.prog ops24 Q 4 (fun a2 w2 => Sx c.A c.B w2 ∧ T24 c 18 a2 w2) a W := by
  rintro a w9 ⟨P, rfl, q⟩
  have d := q.s
  refine wpOp_step (o := { dst := some 12, op := Op.call { callee := Callee.value (Operand.func 35), args := #[Operand.tmp 11], argTypes := #[78] }, type := 2, pos := "message.go:38", after := #[{ on := 3, ground := Ground.data }], guard := none }) rfl (fun K hK => ?_)
  replace hK := hide hK
  go_simp
  go_wp2_with fail
  refine Calls.mono (qnumQ c.e0 q) ?_
  clear q d
  rintro e w10 ⟨rfl, q⟩
  have d := q.s
  go_wp2_with fail
  exact hK.out _ _ ⟨d, P, rfl, q⟩

set_option linter.unusedSimpArgs false in
set_option maxRecDepth 8000 in
set_option maxHeartbeats 4000000 in
theorem step24_22_29 (c : Rd24) (Q : Exit → Act → World → Prop) : ∀ a W, T24 c 22 a W → wpOp Try.prog ops24 Q 29 (fun a2 w2 => Sx c.A c.B w2 ∧ T24 c 23 a2 w2) a W := by
  rintro a w9 ⟨P, rfl, q⟩
  have d := q.s
  refine wpOp_step (o := { dst := some 37, op := Op.call { callee := Callee.value (Operand.func 35), args := #[Operand.tmp 36], argTypes := #[78] }, type := 2, pos := "message.go:43", after := #[{ on := 28, ground := Ground.data }, { on := 24, ground := Ground.chain }], guard := none }) rfl (fun K hK => ?_)
  replace hK := hide hK
  go_simp
  go_wp2_with fail
  refine Calls.mono (qnumQ c.e5 q) ?_
  clear q d
  rintro e w10 ⟨rfl, q⟩
  have d := q.s
  go_wp2_with fail
  exact hK.out _ _ ⟨d, P, rfl, q⟩

set_option linter.unusedSimpArgs false in
set_option maxRecDepth 8000 in
set_option maxHeartbeats 4000000 in
theorem step24_27_48 (c : Rd24) (Q : Exit → Act → World → Prop) : ∀ a W, T24 c 27 a W → wpOp Try.prog ops24 Q 48 (fun a2 w2 => Sx c.A c.B w2 ∧ T24 c 28 a2 w2) a W := by
  rintro a w9 ⟨aes, les, ces, P, rfl, q⟩
  have d := q.s
  refine wpOp_step (o := { dst := some 56, op := Op.call { callee := Callee.value (Operand.func 53), args := #[Operand.tmp 55, Operand.const (Value.int IntKind.i64 9223372036854775807), Operand.func 54], argTypes := #[76, 2, 98] }, type := 52, pos := "message.go:48", after := #[{ on := 47, ground := Ground.data }, { on := 46, ground := Ground.chain }], guard := none }) rfl (fun K hK => ?_)
  replace hK := hide hK
  go_simp
  go_wp2_with fail
  refine Calls.mono (qidsQ c.e10 c.G10 q) ?_
  clear q d
  rintro e w10 ⟨acf, lcf, ccf, rfl, q⟩
  have d := q.s
  go_wp2_with fail
  replace q := q.imp (G := fun W2 => ((W2.heap[c.w.heap.size]? = some (.cells #[.int .i64 0, .int .i64 0, .int .i64 0, .int .i64 0, .int .i64 0, .int .i64 0, .int .i64 0, .slice none 0 0, .bool false, .int .i64 0, .slice none 0 0, .slice none 0 0, .int .i64 0, .int .i64 0, .int .i64 0] 54 (0, 0)) ∧ Er c.b W2 (.slice aes les ces) c.es) ∧ W2.ownsRow c.b 3 1 (.slice acf lcf ccf) c.cf.length (cI c.cf)) ∧ Zb c.b P (.cells #[.int .i64 0, .int .i64 0, .int .i64 0, .int .i64 0, .int .i64 0, .int .i64 0, .int .i64 0, .slice none 0 0, .bool false, .int .i64 0, .slice none 0 0, .slice none 0 0, .int .i64 0, .int .i64 0, .int .i64 0] 54) W2) (fun W2 h => ⟨⟨h.1.1, h.2⟩, h.1.2⟩)
  exact hK.out _ _ ⟨d, aes, les, ces, acf, lcf, ccf, P, rfl, q⟩

set_option linter.unusedSimpArgs false in
set_option maxRecDepth 8000 in
set_option maxHeartbeats 4000000 in
theorem step24_32_66 (c : Rd24) (Q : Exit → Act → World → Prop) : ∀ a W, T24 c 32 a W → wpOp Try.prog ops24 Q 66 (fun a2 w2 => Sx c.A c.B w2 ∧ T24 c 33 a2 w2) a W := by
  rintro a w9 ⟨aes, les, ces, acf, lcf, ccf, adt, ldt, cdt, P, rfl, q⟩
  have d := q.s
  refine wpOp_step (o := { dst := some 74, op := Op.build 54 #[(0, Operand.tmp 12), (1, Operand.tmp 17), (2, Operand.tmp 22), (3, Operand.tmp 27), (4, Operand.tmp 32), (5, Operand.tmp 37), (6, Operand.tmp 42), (7, Operand.tmp 44), (8, Operand.tmp 49), (9, Operand.tmp 54), (10, Operand.tmp 56), (11, Operand.tmp 58), (12, Operand.tmp 63), (13, Operand.tmp 68), (14, Operand.tmp 73)], type := 54, pos := "message.go:37", after := #[{ on := 4, ground := Ground.data }, { on := 9, ground := Ground.data }, { on := 14, ground := Ground.data }, { on := 19, ground := Ground.data }, { on := 24, ground := Ground.data }, { on := 29, ground := Ground.data }, { on := 34, ground := Ground.data }, { on := 36, ground := Ground.data }, { on := 41, ground := Ground.data }, { on := 46, ground := Ground.data }, { on := 48, ground := Ground.data }, { on := 50, ground := Ground.data }, { on := 55, ground := Ground.data }, { on := 60, ground := Ground.data }, { on := 65, ground := Ground.data }], guard := none }) rfl (fun K hK => ?_)
  replace hK := hide hK
  go_simp
  exact hK.out _ _ ⟨d, aes, les, ces, acf, lcf, ccf, adt, ldt, cdt, P, rfl, q⟩

end Go.Proofs.Ytgknpbgepgmmmaa.Cm
namespace Go.Proofs.Ytgknpbgepgmmmaa.Cm
open Go.RowKit Bn Kp

set_option linter.unusedSimpArgs false in
set_option maxRecDepth 8000 in
set_option maxHeartbeats 4000000 in
theorem step24_2_14 (c : Rd24) (Q : Exit → Act → World → Prop) : ∀ a W, T24 c 2 a W → wpOp Try.prog ops24 Q 14 (fun a2 w2 => Sx c.A c.B w2 ∧ T24 c 3 a2 w2) a W := by
  rintro a w9 ⟨rfl, q⟩
  have d := q.s
  refine wpOp_step (o := { dst := some 22, op := Op.call { callee := Callee.value (Operand.func 35), args := #[Operand.tmp 21], argTypes := #[78] }, type := 2, pos := "message.go:40", after := #[{ on := 13, ground := Ground.data }, { on := 9, ground := Ground.chain }], guard := none }) rfl (fun K hK => ?_)
  replace hK := hide hK
  go_simp
  go_wp2_with fail
  refine Calls.mono (qnumQ c.e2 q) ?_
  clear q d
  rintro e w10 ⟨rfl, q⟩
  have d := q.s
  go_wp2_with fail
  exact hK.out _ _ ⟨d, rfl, q⟩

set_option linter.unusedSimpArgs false in
set_option maxRecDepth 8000 in
set_option maxHeartbeats 4000000 in
theorem step24_4_67 (c : Rd24) (Q : Exit → Act → World → Prop) : ∀ a W, T24 c 4 a W → wpOp Try.prog ops24 Q 67 (fun a2 w2 => Sx c.A c.B w2 ∧ T24 c 21 a2 w2) a W := by
  rintro a w9 ⟨rfl, q⟩
  have d := q.s
  refine wpOp_step (o := { dst := some 5, op := Op.alloc 54, type := 0, pos := "message.go:37", after := #[], guard := none }) rfl (fun K hK => ?_)
  replace hK := hide hK
  go_simp
  exact hK.out _ _ ⟨(q.alloc _).s, _, rfl, q.alloc _⟩

set_option linter.unusedSimpArgs false in
set_option maxRecDepth 8000 in
set_option maxHeartbeats 4000000 in
theorem step24_7_36 (c : Rd24) (Q : Exit → Act → World → Prop) : ∀ a W, T24 c 7 a W → wpOp Try.prog ops24 Q 36 (fun a2 w2 => Sx c.A c.B w2 ∧ T24 c 8 a2 w2) a W := by
  rintro a w9 ⟨rfl, q⟩
  have d := q.s
  refine wpOp_step (o := { dst := some 44, op := Op.call { callee := Callee.value (Operand.func 51), args := #[Operand.tmp 43, Operand.const (Value.int IntKind.i64 9223372036854775807), Operand.func 52], argTypes := #[76, 2, 96] }, type := 51, pos := "message.go:45", after := #[{ on := 35, ground := Ground.data }, { on := 34, ground := Ground.chain }], guard := none }) rfl (fun K hK => ?_)
  replace hK := hide hK
  go_simp
  go_wp2_with fail
  refine Calls.mono (qentsQ c.e7 c.G7 q) ?_
  clear q d
  rintro e w10 ⟨aes, les, ces, rfl, q⟩
  have d := q.s
  go_wp2_with fail
  exact hK.out _ _ ⟨d, aes, les, ces, rfl, q⟩

set_option linter.unusedSimpArgs false in
set_option maxRecDepth 8000 in
set_option maxHeartbeats 4000000 in
theorem step24_9_67 (c : Rd24) (Q : Exit → Act → World → Prop) : ∀ a W, T24 c 9 a W → wpOp Try.prog ops24 Q 67 (fun a2 w2 => Sx c.A c.B w2 ∧ T24 c 26 a2 w2) a W := by
  rintro a w9 ⟨aes, les, ces, rfl, q⟩
  have d := q.s
  refine wpOp_step (o := { dst := some 5, op := Op.alloc 54, type := 0, pos := "message.go:37", after := #[], guard := none }) rfl (fun K hK => ?_)
  replace hK := hide hK
  go_simp
  exact hK.out _ _ ⟨(q.alloc _).s, aes, les, ces, _, rfl, q.alloc _⟩

set_option linter.unusedSimpArgs false in
set_option maxRecDepth 8000 in
set_option maxHeartbeats 4000000 in
theorem step24_12_55 (c : Rd24) (Q : Exit → Act → World → Prop) : ∀ a W, T24 c 12 a W → wpOp Try.prog ops24 Q 55 (fun a2 w2 => Sx c.A c.B w2 ∧ T24 c 13 a2 w2) a W := by
  rintro a w9 ⟨aes, les, ces, acf, lcf, ccf, adt, ldt, cdt, rfl, q⟩
  have d := q.s
  refine wpOp_step (o := { dst := some 63, op := Op.call { callee := Callee.value (Operand.func 35), args := #[Operand.tmp 62], argTypes := #[78] }, type := 2, pos := "message.go:50", after := #[{ on := 54, ground := Ground.data }, { on := 50, ground := Ground.chain }], guard := none }) rfl (fun K hK => ?_)
  replace hK := hide hK
  go_simp
  go_wp2_with fail
  refine Calls.mono (qnumQ c.e12 q) ?_
  clear q d
  rintro e w10 ⟨rfl, q⟩
  have d := q.s
  go_wp2_with fail
  exact hK.out _ _ ⟨d, aes, les, ces, acf, lcf, ccf, adt, ldt, cdt, rfl, q⟩

set_option linter.unusedSimpArgs false in
set_option maxRecDepth 8000 in
set_option maxHeartbeats 4000000 in
theorem step24_14_67 (c : Rd24) (Q : Exit → Act → World → Prop) : ∀ a W, T24 c 14 a W → wpOp Try.prog ops24 Q 67 (fun a2 w2 => Sx c.A c.B w2 ∧ T24 c 31 a2 w2) a W := by
  rintro a w9 ⟨aes, les, ces, acf, lcf, ccf, adt, ldt, cdt, rfl, q⟩
  have d := q.s
  refine wpOp_step (o := { dst := some 5, op := Op.alloc 54, type := 0, pos := "message.go:37", after := #[], guard := none }) rfl (fun K hK => ?_)
  replace hK := hide hK
  go_simp
  exact hK.out _ _ ⟨(q.alloc _).s, aes, les, ces, acf, lcf, ccf, adt, ldt, cdt, _, rfl, q.alloc _⟩

set_option linter.unusedSimpArgs false in
set_option maxRecDepth 8000 in
set_option maxHeartbeats 4000000 in
theorem step24_18_9 (c : Rd24) (Q : Exit → Act → World → Prop) : ∀ a W, T24 c 18 a W → wpOp Try.prog ops24 Q 9 (fun a2 w2 => Sx c.A c.B w2 ∧ T24 c 19 a2 w2) a W := by
  rintro a w9 ⟨P, rfl, q⟩
  have d := q.s
  refine wpOp_step (o := { dst := some 17, op := Op.call { callee := Callee.value (Operand.func 35), args := #[Operand.tmp 16], argTypes := #[78] }, type := 2, pos := "message.go:39", after := #[{ on := 8, ground := Ground.data }, { on := 4, ground := Ground.chain }], guard := none }) rfl (fun K hK => ?_)
  replace hK := hide hK
  go_simp
  go_wp2_with fail
  refine Calls.mono (qnumQ c.e1 q) ?_
  clear q d
  rintro e w10 ⟨rfl, q⟩
  have d := q.s
  go_wp2_with fail
  exact hK.out _ _ ⟨d, P, rfl, q⟩

set_option linter.unusedSimpArgs false in
set_option maxRecDepth 8000 in
set_option maxHeartbeats 4000000 in
theorem step24_23_34 (c : Rd24) (Q : Exit → Act → World → Prop) : ∀ a W, T24 c 23 a W → wpOp Try.prog ops24 Q 34 (fun a2 w2 => Sx c.A c.B w2 ∧ T24 c 24 a2 w2) a W := by
  rintro a w9 ⟨P, rfl, q⟩
  have d := q.s
  refine wpOp_step (o := { dst := some 42, op := Op.call { callee := Callee.value (Operand.func 35), args := #[Operand.tmp 41], argTypes := #[78] }, type := 2, pos := "message.go:44", after := #[{ on := 33, ground := Ground.data }, { on := 29, ground := Ground.chain }], guard := none }) rfl (fun K hK => ?_)
  replace hK := hide hK
  go_simp
  go_wp2_with fail
  refine Calls.mono (qnumQ c.e6 q) ?_
  clear q d
  rintro e w10 ⟨rfl, q⟩
  have d := q.s
  go_wp2_with fail
  exact hK.out _ _ ⟨d, P, rfl, q⟩

set_option linter.unusedSimpArgs false in
set_option maxRecDepth 8000 in
set_option maxHeartbeats 4000000 in
theorem step24_28_50 (c : Rd24) (Q : Exit → Act → World → Prop) : ∀ a W, T24 c 28 a W → wpOp Try.prog ops24 Q 50 (fun a2 w2 => Sx c.A c.B w2 ∧ T24 c 29 a2 w2) a W := by
  rintro a w9 ⟨aes, les, ces, acf, lcf, ccf, P, rfl, q⟩
  have d := q.s
  refine wpOp_step (o := { dst := some 58, op := Op.call { callee := Callee.value (Operand.func 55), args := #[Operand.tmp 57], argTypes := #[76] }, type := 24, pos := "message.go:49", after := #[{ on := 49, ground := Ground.data }, { on := 48, ground := Ground.chain }], guard := none }) rfl (fun K hK => ?_)
  replace hK := hide hK
  go_simp
  go_wp2_with fail
  refine Calls.mono (qdataQ c.e11 q) ?_
  clear q d
  rintro e w10 ⟨adt, ldt, cdt, rfl, q⟩
  have d := q.s
  go_wp2_with fail
  replace q := q.imp (G := fun W2 => (((W2.heap[c.w.heap.size]? = some (.cells #[.int .i64 0, .int .i64 0, .int .i64 0, .int .i64 0, .int .i64 0, .int .i64 0, .int .i64 0, .slice none 0 0, .bool false, .int .i64 0, .slice none 0 0, .slice none 0 0, .int .i64 0, .int .i64 0, .int .i64 0] 54 (0, 0)) ∧ Er c.b W2 (.slice aes les ces) c.es) ∧ W2.ownsRow c.b 3 1 (.slice acf lcf ccf) c.cf.length (cI c.cf)) ∧ Dt c.b W2 (.slice adt ldt cdt) c.dt) ∧ Zb c.b P (.cells #[.int .i64 0, .int .i64 0, .int .i64 0, .int .i64 0, .int .i64 0, .int .i64 0, .int .i64 0, .slice none 0 0, .bool false, .int .i64 0, .slice none 0 0, .slice none 0 0, .int .i64 0, .int .i64 0, .int .i64 0] 54) W2) (fun W2 h => ⟨⟨h.1.1, h.2⟩, h.1.2⟩)
  exact hK.out _ _ ⟨d, aes, les, ces, acf, lcf, ccf, adt, ldt, cdt, P, rfl, q⟩

set_option linter.unusedSimpArgs false in
set_option maxRecDepth 8000 in
set_option maxHeartbeats 4000000 in
theorem step24_33_68 (c : Rd24) (Q : Exit → Act → World → Prop) : ∀ a W, T24 c 33 a W → wpOp Try.prog ops24 Q 68 (fun a2 w2 => Sx c.A c.B w2 ∧ T24 c 34 a2 w2) a W := by
  rintro a w9 ⟨aes, les, ces, acf, lcf, ccf, adt, ldt, cdt, P, rfl, q⟩
  have d := q.s
  refine wpOp_step (o := { dst := none, op := Op.store 54 (Operand.tmp 5) (Operand.tmp 74), type := 0, pos := "message.go:37", after := ([{ on := 67, ground := Ground.data }, { on := 66, ground := Ground.data }, { on := 65, ground := Ground.chain }, { on := 0, ground := Ground.phase }, { on := 1, ground := Ground.phase }, { on := 2, ground := Ground.phase }, { on := 3, ground := Ground.phase }, { on := 4, ground := Ground.phase }, { on := 5, ground := Ground.phase }, { on := 6, ground := Ground.phase }, { on := 7, ground := Ground.phase }, { on := 8, ground := Ground.phase }, { on := 9, ground := Ground.phase }, { on := 10, ground := Ground.phase }, { on := 11, ground := Ground.phase }, { on := 12, ground := Ground.phase }, { on := 13, ground := Ground.phase }, { on := 14, ground := Ground.phase }, { on := 15, ground := Ground.phase }, { on := 16, ground := Ground.phase }, { on := 17, ground := Ground.phase }, { on := 18, ground := Ground.phase }, { on := 19, ground := Ground.phase }, { on := 20, ground := Ground.phase }, { on := 21, ground := Ground.phase }, { on := 22, ground := Ground.phase }, { on := 23, ground := Ground.phase }, { on := 24, ground := Ground.phase }, { on := 25, ground := Ground.phase }, { on := 26, ground := Ground.phase }, { on := 27, ground := Ground.phase }, { on := 28, ground := Ground.phase }, { on := 29, ground := Ground.phase }, { on := 30, ground := Ground.phase }, { on := 31, ground := Ground.phase }].append [{ on := 32, ground := Ground.phase }, { on := 33, ground := Ground.phase }, { on := 34, ground := Ground.phase }, { on := 35, ground := Ground.phase }, { on := 36, ground := Ground.phase }, { on := 37, ground := Ground.phase }, { on := 38, ground := Ground.phase }, { on := 39, ground := Ground.phase }, { on := 40, ground := Ground.phase }, { on := 41, ground := Ground.phase }, { on := 42, ground := Ground.phase }, { on := 43, ground := Ground.phase }, { on := 44, ground := Ground.phase }, { on := 45, ground := Ground.phase }, { on := 46, ground := Ground.phase }, { on := 47, ground := Ground.phase }, { on := 48, ground := Ground.phase }, { on := 49, ground := Ground.phase }, { on := 50, ground := Ground.phase }, { on := 51, ground := Ground.phase }, { on := 52, ground := Ground.phase }, { on := 53, ground := Ground.phase }, { on := 54, ground := Ground.phase }, { on := 55, ground := Ground.phase }, { on := 56, ground := Ground.phase }, { on := 57, ground := Ground.phase }, { on := 58, ground := Ground.phase }, { on := 59, ground := Ground.phase }, { on := 60, ground := Ground.phase }, { on := 61, ground := Ground.phase }, { on := 62, ground := Ground.phase }, { on := 63, ground := Ground.phase }, { on := 64, ground := Ground.phase }, { on := 65, ground := Ground.phase }, { on := 66, ground := Ground.phase }, { on := 67, ground := Ground.phase }]).toArray, guard := none }) rfl (fun K hK => ?_)
  replace hK := hide hK
  have hz : Zb c.b _ _ _ := q.now.2
  obtain ⟨z0, z1, z2, z3, z4, z5, z6, z7, z8, z9, z10, z11, z12, z13, z14⟩ := cells_Msg hz.1
  have zz := fun i => frozen_of_row w9 _ i _ _ hz.1
  have dd := Msg_s d (ne_type hz.1 q.cr.at_ (by decide)) (.int .i64 c.m0) (.int .i64 c.m1) (.int .i64 c.m2) (.int .i64 c.m3) (.int .i64 c.m4) (.int .i64 c.m5) (.int .i64 c.m6) (.slice aes les ces) (.bool c.ok) (.int .i64 c.m9) (.slice acf lcf ccf) (.slice adt ldt cdt) (.int .i64 c.m12) (.int .i64 c.m13) (.int .i64 c.m14)
  have HF := hide (Msg_set ⟨q.cr, c.HBX.trans (q.fr.below c.HBX.size c.hA c.hB), q.now.1.1.1.1, q.now.1.1.1.2, q.now.1.1.2, q.now.1.2⟩ hz c.hbw (.int .i64 c.m0) (.int .i64 c.m1) (.int .i64 c.m2) (.int .i64 c.m3) (.int .i64 c.m4) (.int .i64 c.m5) (.int .i64 c.m6) (.slice aes les ces) (.bool c.ok) (.int .i64 c.m9) (.slice acf lcf ccf) (.slice adt ldt cdt) (.int .i64 c.m12) (.int .i64 c.m13) (.int .i64 c.m14))
  go_simp
  exact hK.out _ _ ⟨dd, aes, les, ces, acf, lcf, ccf, adt, ldt, cdt, P, rfl, HF.out.1, HF.out.2⟩

end Go.Proofs.Ytgknpbgepgmmmaa.Cm
namespace Go.Proofs.Ytgknpbgepgmmmaa.Cm
open Go.RowKit Bn Kp

set_option maxRecDepth 8000 in
set_option maxHeartbeats 20000000 in
theorem readMsg_any {w : World} {v : Value} {bs : List UInt8} (hS : Sl w v bs) (hl : bs.length ≤ 900000) (m0 : Int) (m1 : Int) (m2 : Int) (m3 : Int) (m4 : Int) (m5 : Int) (m6 : Int) (es : List Ent) (ok : Bool) (m9 : Int) (cf : List Int) (dt : List UInt8) (m12 : Int) (m13 : Int) (m14 : Int) (st1 st2 st3 st4 st5 st6 st7 st8 st9 st10 st11 st12 st13 st14 st15 : R) (wr7 wr10 : Bool) (e0 : rNum (some bs) = (m0, st1)) (e1 : rNum (st1) = (m1, st2)) (e2 : rNum (st2) = (m2, st3)) (e3 : rNum (st3) = (m3, st4)) (e4 : rNum (st4) = (m4, st5)) (e5 : rNum (st5) = (m5, st6)) (e6 : rNum (st6) = (m6, st7)) (e7 : rdLs rEnt 9223372036854775807 (st7) false = ((es, st8), wr7)) (e8 : rFlag (st8) = (ok, st9)) (e9 : rNum (st9) = (m9, st10)) (e10 : rdLs rNum 9223372036854775807 (st10) wr7 = ((cf, st11), wr10)) (e11 : rText (st11) = (dt, st12)) (e12 : rNum (st12) = (m12, st13)) (e13 : rNum (st13) = (m13, st14)) (e14 : rNum (st14) = (m14, st15)) :
    Calls Try.prog 24 #[v] w fun e w' => ∃ ues ucf udt, e = .returned (.tuple #[.agg (okC st15 wr10 #[.int .i64 m0, .int .i64 m1, .int .i64 m2, .int .i64 m3, .int .i64 m4, .int .i64 m5, .int .i64 m6, ues, .bool ok, .int .i64 m9, ucf, udt, .int .i64 m12, .int .i64 m13, .int .i64 m14] #[.int .i64 0, .int .i64 0, .int .i64 0, .int .i64 0, .int .i64 0, .int .i64 0, .int .i64 0, .slice none 0 0, .bool false, .int .i64 0, .slice none 0 0, .slice none 0 0, .int .i64 0, .int .i64 0, .int .i64 0]), .int .i64 (okN st15 wr10)]) ∧ Hid (MsgR w w' ues es ucf cf udt dt) := by
  have G7 : Hid (goS (st7) ≤ 1000000) := by
    have h0 := goS_num' (some bs)
    rw [e0] at h0
    dsimp only at h0
    have h1 := goS_num' (st1)
    rw [e1] at h1
    dsimp only at h1
    have h2 := goS_num' (st2)
    rw [e2] at h2
    dsimp only at h2
    have h3 := goS_num' (st3)
    rw [e3] at h3
    dsimp only at h3
    have h4 := goS_num' (st4)
    rw [e4] at h4
    dsimp only at h4
    have h5 := goS_num' (st5)
    rw [e5] at h5
    dsimp only at h5
    have h6 := goS_num' (st6)
    rw [e6] at h6
    dsimp only at h6
    have hb : goS (some bs) = bs.length + 1 := rfl
    show _ ≤ _
    omega
  have G10 : Hid (goS (st10) ≤ 1000000) := by
    have h0 := goS_num' (some bs)
    rw [e0] at h0
    dsimp only at h0
    have h1 := goS_num' (st1)
    rw [e1] at h1
    dsimp only at h1
    have h2 := goS_num' (st2)
    rw [e2] at h2
    dsimp only at h2
    have h3 := goS_num' (st3)
    rw [e3] at h3
    dsimp only at h3
    have h4 := goS_num' (st4)
    rw [e4] at h4
    dsimp only at h4
    have h5 := goS_num' (st5)
    rw [e5] at h5
    dsimp only at h5
    have h6 := goS_num' (st6)
    rw [e6] at h6
    dsimp only at h6
    have h7 := goS_ents 9223372036854775807 (st7) false
    rw [e7] at h7
    dsimp only at h7
    have h8 := goS_flag (st8)
    rw [e8] at h8
    dsimp only at h8
    have h9 := goS_num' (st9)
    rw [e9] at h9
    dsimp only at h9
    have hb : goS (some bs) = bs.length + 1 := rfl
    show _ ≤ _
    omega
  have E0 := hide e0
  have E1 := hide e1
  have E2 := hide e2
  have E3 := hide e3
  have E4 := hide e4
  have E5 := hide e5
  have E6 := hide e6
  have E7 := hide e7
  have E8 := hide e8
  have E9 := hide e9
  have E10 := hide e10
  have E11 := hide e11
  have E12 := hide e12
  have E13 := hide e13
  have E14 := hide e14
  obtain ⟨W0, hW0⟩ : ∃ W0, Hid (W0 = w.alloc (.cells #[.int .i64 0, .int .i64 0, .int .i64 0, .int .i64 0, .int .i64 0, .int .i64 0, .int .i64 0, .slice none 0 0, .bool false, .int .i64 0, .slice none 0 0, .slice none 0 0, .int .i64 0, .int .i64 0, .int .i64 0] 54)) := ⟨_, (rfl : _ = _)⟩
  have HR : Hid _ := readC_any v bs W0 (by rw [hW0.out]; exact hS.alloc _) (by omega)
  have HB0 : Hid (Below w.heap.size w W0) := by rw [hW0.out]; exact (Below.refl _ _).alloc (Nat.le_refl _) _
  have HZ0 : Hid (W0.heap[w.heap.size]? = some (.cells #[.int .i64 0, .int .i64 0, .int .i64 0, .int .i64 0, .int .i64 0, .int .i64 0, .int .i64 0, .slice none 0 0, .bool false, .int .i64 0, .slice none 0 0, .slice none 0 0, .int .i64 0, .int .i64 0, .int .i64 0] 54 (0, 0))) := by rw [hW0.out]; exact heap_alloc_new _ _
  have HSZ : Hid (W0.heap.size = w.heap.size + 1) := by show _ = _; rw [hW0.out]; simp
  obtain ⟨ao, cap, rfl, -, -⟩ := hS.shape
  clear hS e0 e1 e2 e3 e4 e5 e6 e7 e8 e9 e10 e11 e12 e13 e14 hl
  go_enter Try.func24, Try.ntmps24
  go_upto_region 1 with fail
  rw [← hW0.out]
  go_wp2_with fail
  refine Calls.mono HR.out ?_
  rintro e X ⟨A, rfl, HP⟩
  obtain ⟨b, B, hC, hA, hB, hb, hbX⟩ := HP.out
  have hsz := HSZ.out
  have q : Qs b A B X (some bs) false (fun W => W.heap[w.heap.size]? = some (.cells #[.int .i64 0, .int .i64 0, .int .i64 0, .int .i64 0, .int .i64 0, .int .i64 0, .int .i64 0, .slice none 0 0, .bool false, .int .i64 0, .slice none 0 0, .slice none 0 0, .int .i64 0, .int .i64 0, .int .i64 0] 54 (0, 0))) X :=
    ⟨hC, Wrote.refl _ _ _, by omega, fun W' hk => by
      rw [hk.block w.heap.size (by have := hbX.size; omega) (by omega) (by simp; omega), hbX.block _ (by omega)]
      exact HZ0.out⟩
  have HBX := hide (HB0.out.trans (hbX.mono HB0.out.size))
  have hbw : w.heap.size < b := by have := hbX.size; omega
  have hA0 : w.heap.size < A := by omega
  have hB0 : w.heap.size < B := by omega
  have hA : w.heap.size ≤ A := by omega
  have hB : w.heap.size ≤ B := by omega
  clear HR HP hb hbX hC hsz
  go_upto_region 2 with fail
  go_cut [5] from 8 to 75 (fun v5 wc => ∃ (P : Nat) (aes : Option Addr) (les ces : Nat) (acf : Option Addr) (lcf ccf : Nat) (adt : Option Addr) (ldt cdt : Nat), v5 = .pointer (some ⟨P, 0, none⟩) ∧ wc.heap[P]? = some (.cells #[.int .i64 m0, .int .i64 m1, .int .i64 m2, .int .i64 m3, .int .i64 m4, .int .i64 m5, .int .i64 m6, .slice aes les ces, .bool ok, .int .i64 m9, .slice acf lcf ccf, .slice adt ldt cdt, .int .i64 m12, .int .i64 m13, .int .i64 m14] 54 (0, 0)) ∧ Hid (MsgQ w wc b A B st15 wr10 (.slice aes les ces) es (.slice acf lcf ccf) cf (.slice adt ldt cdt) dt))
  case first =>
    obtain ⟨v0, hv0⟩ : ∃ v, Hid (v = Value.slice ao bs.length cap) := ⟨_, (rfl : _ = _)⟩
    rw [← hv0.out]
    have d := q.drew.s
    replace q := q.drew
    refine wp_region_noPanic ?_
    refine wp_region_held_drew (S := Sx A B) (by kernel_rfl) d (fun hHeld => ?_)
    refine takes24 (v0 := v0) (z := w.heap.size) (fun _ _ _ h => h) d ?_
    obtain ⟨c, hc⟩ : ∃ c : Rd24, c = ⟨w, X, b, A, B, v0, m0, m1, m2, m3, m4, m5, m6, m9, m12, m13, m14, es, ok, cf, dt, some bs, st1, st2, st3, st4, st5, st6, st7, st8, st9, st10, st11, st12, st13, st14, st15, wr7, wr10, E0.out, E1.out, E2.out, E3.out, E4.out, E5.out, E6.out, E7.out, E8.out, E9.out, E10.out, E11.out, E12.out, E13.out, E14.out, G7.out, G10.out, HBX.out, hbw, hA, hB⟩ := ⟨_, rfl⟩
    have h0 : T24 c 0 (fr24 v0 w.heap.size A B undef undef undef undef undef undef undef undef undef undef undef undef undef undef undef undef undef) X.drew := by subst hc; exact ⟨rfl, q⟩
    have hSx : Sx A B = Sx c.A c.B := by subst hc; rfl
    rw [hSx]
    refine held_steps 69 tab24 es24 [34] (T24 c) tab24_ok tab24_es tab24_en (s := 0) (by kernel_rfl) h0 ?_ ?_
    · refine List.forall_mem_cons.2 ⟨?_, fun _ h => nomatch h⟩
      subst hc
      rintro a wE ⟨aes, les, ces, acf, lcf, ccf, adt, ldt, cdt, P, rfl, hP, HQ⟩
      have hv := hv0.out
      subst hv
      dsimp only [fr24]
      refine NoPanic.normal ?_
      go_wp2_with fail
      go_meet
      exact ⟨_, aes, les, ces, acf, lcf, ccf, adt, ldt, cdt, rfl, hP, HQ⟩
    refine List.forall_mem_cons.2 ⟨step24_0_4 c _, ?_⟩
    refine List.forall_mem_cons.2 ⟨step24_0_67 c _, ?_⟩
    refine List.forall_mem_cons.2 ⟨step24_1_9 c _, ?_⟩
    refine List.forall_mem_cons.2 ⟨step24_1_67 c _, ?_⟩
    refine List.forall_mem_cons.2 ⟨step24_2_14 c _, ?_⟩
    refine List.forall_mem_cons.2 ⟨step24_2_67 c _, ?_⟩
    refine List.forall_mem_cons.2 ⟨step24_3_19 c _, ?_⟩
    refine List.forall_mem_cons.2 ⟨step24_3_67 c _, ?_⟩
    refine List.forall_mem_cons.2 ⟨step24_4_24 c _, ?_⟩
    refine List.forall_mem_cons.2 ⟨step24_4_67 c _, ?_⟩
    refine List.forall_mem_cons.2 ⟨step24_5_29 c _, ?_⟩
    refine List.forall_mem_cons.2 ⟨step24_5_67 c _, ?_⟩
    refine List.forall_mem_cons.2 ⟨step24_6_34 c _, ?_⟩
    refine List.forall_mem_cons.2 ⟨step24_6_67 c _, ?_⟩
    refine List.forall_mem_cons.2 ⟨step24_7_36 c _, ?_⟩
    refine List.forall_mem_cons.2 ⟨step24_7_67 c _, ?_⟩
    refine List.forall_mem_cons.2 ⟨step24_8_41 c _, ?_⟩
    refine List.forall_mem_cons.2 ⟨step24_8_67 c _, ?_⟩
    refine List.forall_mem_cons.2 ⟨step24_9_46 c _, ?_⟩
    refine List.forall_mem_cons.2 ⟨step24_9_67 c _, ?_⟩
    refine List.forall_mem_cons.2 ⟨step24_10_48 c _, ?_⟩
    refine List.forall_mem_cons.2 ⟨step24_10_67 c _, ?_⟩
    refine List.forall_mem_cons.2 ⟨step24_11_50 c _, ?_⟩
    refine List.forall_mem_cons.2 ⟨step24_11_67 c _, ?_⟩
    refine List.forall_mem_cons.2 ⟨step24_12_55 c _, ?_⟩
    refine List.forall_mem_cons.2 ⟨step24_12_67 c _, ?_⟩
    refine List.forall_mem_cons.2 ⟨step24_13_60 c _, ?_⟩
    refine List.forall_mem_cons.2 ⟨step24_13_67 c _, ?_⟩
    refine List.forall_mem_cons.2 ⟨step24_14_65 c _, ?_⟩
    refine List.forall_mem_cons.2 ⟨step24_14_67 c _, ?_⟩
    refine List.forall_mem_cons.2 ⟨step24_15_66 c _, ?_⟩
    refine List.forall_mem_cons.2 ⟨step24_15_67 c _, ?_⟩
    refine List.forall_mem_cons.2 ⟨step24_16_67 c _, ?_⟩
    refine List.forall_mem_cons.2 ⟨step24_17_4 c _, ?_⟩
    refine List.forall_mem_cons.2 ⟨step24_18_9 c _, ?_⟩
    refine List.forall_mem_cons.2 ⟨step24_19_14 c _, ?_⟩
    refine List.forall_mem_cons.2 ⟨step24_20_19 c _, ?_⟩
    refine List.forall_mem_cons.2 ⟨step24_21_24 c _, ?_⟩
    refine List.forall_mem_cons.2 ⟨step24_22_29 c _, ?_⟩
    refine List.forall_mem_cons.2 ⟨step24_23_34 c _, ?_⟩
    refine List.forall_mem_cons.2 ⟨step24_24_36 c _, ?_⟩
    refine List.forall_mem_cons.2 ⟨step24_25_41 c _, ?_⟩
    refine List.forall_mem_cons.2 ⟨step24_26_46 c _, ?_⟩
    refine List.forall_mem_cons.2 ⟨step24_27_48 c _, ?_⟩
    refine List.forall_mem_cons.2 ⟨step24_28_50 c _, ?_⟩
    refine List.forall_mem_cons.2 ⟨step24_29_55 c _, ?_⟩
    refine List.forall_mem_cons.2 ⟨step24_30_60 c _, ?_⟩
    refine List.forall_mem_cons.2 ⟨step24_31_65 c _, ?_⟩
    refine List.forall_mem_cons.2 ⟨step24_32_66 c _, ?_⟩
    refine List.forall_mem_cons.2 ⟨step24_33_68 c _, ?_⟩
    exact fun _ h => nomatch h
  case rest =>
    obtain ⟨P, aes, les, ces, acf, lcf, ccf, adt, ldt, cdt, rfl, hP, HQ⟩ := hcut
    clear q
    obtain ⟨c0, c1, c2, c3, c4, c5, c6, c7, c8, c9, c10, c11, c12, c13, c14⟩ := cells_Msg hP
    have HT := hide (taken_Msg HQ.out.1 m0 m1 m2 m3 m4 m5 m6 aes les ces ok m9 acf lcf ccf adt ldt cdt m12 m13 m14)
    have HF : Hid (∀ w6, Below wc.heap.size wc w6 → w6.heap[w.heap.size]? = some (.cells #[.int .i64 0, .int .i64 0, .int .i64 0, .int .i64 0, .int .i64 0, .int .i64 0, .int .i64 0, .slice none 0 0, .bool false, .int .i64 0, .slice none 0 0, .slice none 0 0, .int .i64 0, .int .i64 0, .int .i64 0] 54 (0, 0)) ∧ ∀ y0 y1 y2 y3 y4 y5 y6 y7 y8 y9 y10 y11 y12 y13 y14, MsgR w (((((((((((((((w6.setCell ⟨w.heap.size, 0, none⟩ y0).setCell ⟨w.heap.size, 1, none⟩ y1).setCell ⟨w.heap.size, 2, none⟩ y2).setCell ⟨w.heap.size, 3, none⟩ y3).setCell ⟨w.heap.size, 4, none⟩ y4).setCell ⟨w.heap.size, 5, none⟩ y5).setCell ⟨w.heap.size, 6, none⟩ y6).setCell ⟨w.heap.size, 7, none⟩ y7).setCell ⟨w.heap.size, 8, none⟩ y8).setCell ⟨w.heap.size, 9, none⟩ y9).setCell ⟨w.heap.size, 10, none⟩ y10).setCell ⟨w.heap.size, 11, none⟩ y11).setCell ⟨w.heap.size, 12, none⟩ y12).setCell ⟨w.heap.size, 13, none⟩ y13).setCell ⟨w.heap.size, 14, none⟩ y14) (.slice aes les ces) es (.slice acf lcf ccf) cf (.slice adt ldt cdt) dt) := by
      intro w6 h6
      obtain ⟨-, q2, q3, r0, r1, r2⟩ := HQ.out
      have z6 := (h6.block _ (lt_of_block q3)).trans q3
      refine ⟨z6, fun y0 y1 y2 y3 y4 y5 y6 y7 y8 y9 y10 y11 y12 y13 y14 => ?_⟩
      obtain ⟨s1, s2⟩ := set_Msg (b := w.heap.size) y0 y1 y2 y3 y4 y5 y6 y7 y8 y9 y10 y11 y12 y13 y14 z6 (Nat.le_refl _)
      have hk : ∀ k, k ≠ w.heap.size → (((((((((((((((w6.setCell ⟨w.heap.size, 0, none⟩ y0).setCell ⟨w.heap.size, 1, none⟩ y1).setCell ⟨w.heap.size, 2, none⟩ y2).setCell ⟨w.heap.size, 3, none⟩ y3).setCell ⟨w.heap.size, 4, none⟩ y4).setCell ⟨w.heap.size, 5, none⟩ y5).setCell ⟨w.heap.size, 6, none⟩ y6).setCell ⟨w.heap.size, 7, none⟩ y7).setCell ⟨w.heap.size, 8, none⟩ y8).setCell ⟨w.heap.size, 9, none⟩ y9).setCell ⟨w.heap.size, 10, none⟩ y10).setCell ⟨w.heap.size, 11, none⟩ y11).setCell ⟨w.heap.size, 12, none⟩ y12).setCell ⟨w.heap.size, 13, none⟩ y13).setCell ⟨w.heap.size, 14, none⟩ y14).heap[k]? = w6.heap[k]? := fun k hk => by
        rw [Below.heap_setCell _ _ _ _ hk, Below.heap_setCell _ _ _ _ hk, Below.heap_setCell _ _ _ _ hk, Below.heap_setCell _ _ _ _ hk, Below.heap_setCell _ _ _ _ hk, Below.heap_setCell _ _ _ _ hk, Below.heap_setCell _ _ _ _ hk, Below.heap_setCell _ _ _ _ hk, Below.heap_setCell _ _ _ _ hk, Below.heap_setCell _ _ _ _ hk, Below.heap_setCell _ _ _ _ hk, Below.heap_setCell _ _ _ _ hk, Below.heap_setCell _ _ _ _ hk, Below.heap_setCell _ _ _ _ hk, Below.heap_setCell _ _ _ _ hk]
      generalize (((((((((((((((w6.setCell ⟨w.heap.size, 0, none⟩ y0).setCell ⟨w.heap.size, 1, none⟩ y1).setCell ⟨w.heap.size, 2, none⟩ y2).setCell ⟨w.heap.size, 3, none⟩ y3).setCell ⟨w.heap.size, 4, none⟩ y4).setCell ⟨w.heap.size, 5, none⟩ y5).setCell ⟨w.heap.size, 6, none⟩ y6).setCell ⟨w.heap.size, 7, none⟩ y7).setCell ⟨w.heap.size, 8, none⟩ y8).setCell ⟨w.heap.size, 9, none⟩ y9).setCell ⟨w.heap.size, 10, none⟩ y10).setCell ⟨w.heap.size, 11, none⟩ y11).setCell ⟨w.heap.size, 12, none⟩ y12).setCell ⟨w.heap.size, 13, none⟩ y13).setCell ⟨w.heap.size, 14, none⟩ y14) = W' at s1 s2 hk ⊢
      exact ⟨(q2.trans (h6.mono q2.size)).trans s2, er_low (er_off (er_below r0 h6) z6 (by decide) (by decide) hk) (by omega), own_low (own_off (own_below r1 h6) z6 (by decide) hk) (by omega), own_low (own_off (own_below r2 h6) z6 (by decide) hk) (by omega)⟩
    clear hP HQ
    cases hok : okB st15 wr10
    · rw [okC_f hok, okN_f hok] at HT
      have HOK := hide hok
      clear hok
      go_wp2_with fail
      refine Calls.mono HT.out ?_
      rintro e w6 ⟨rfl, hb6⟩
      have hz := (HF.out w6 hb6.out).1
      obtain ⟨z0, z1, z2, z3, z4, z5, z6, z7, z8, z9, z10, z11, z12, z13, z14⟩ := cells_Msg hz
      have zz := fun i => frozen_of_row w6 _ i _ _ hz
      have HZ := hide hz
      clear HT hz
      go_wp2_with fail
      refine bodyPost_ret (ret_cell rfl _ _ w.heap.size 54 _ rfl (set_Msg (b := w.heap.size) _ _ _ _ _ _ _ _ _ _ _ _ _ _ _ HZ.out (Nat.le_refl _)).1 Try.underlying54 sz_Msg) rfl ?_
      refine ⟨.slice aes les ces, .slice acf lcf ccf, .slice adt ldt cdt, ?_, (HF.out w6 hb6.out).2 _ _ _ _ _ _ _ _ _ _ _ _ _ _ _⟩
      rw [okC_f HOK.out, okN_f HOK.out]
      rfl
    · rw [okC_t hok, okN_t hok] at HT
      have HOK := hide hok
      clear hok
      go_wp2_with fail
      refine Calls.mono HT.out ?_
      rintro e w6 ⟨rfl, hb6⟩
      have hz := (HF.out w6 hb6.out).1
      obtain ⟨z0, z1, z2, z3, z4, z5, z6, z7, z8, z9, z10, z11, z12, z13, z14⟩ := cells_Msg hz
      have zz := fun i => frozen_of_row w6 _ i _ _ hz
      have HZ := hide hz
      clear HT hz
      go_wp2_with fail
      refine bodyPost_ret (ret_cell rfl _ _ w.heap.size 54 _ rfl (set_Msg (b := w.heap.size) _ _ _ _ _ _ _ _ _ _ _ _ _ _ _ HZ.out (Nat.le_refl _)).1 Try.underlying54 sz_Msg) rfl ?_
      refine ⟨.slice aes les ces, .slice acf lcf ccf, .slice adt ldt cdt, ?_, (HF.out w6 hb6.out).2 _ _ _ _ _ _ _ _ _ _ _ _ _ _ _⟩
      rw [okC_t HOK.out, okN_t HOK.out]
      rfl
end Go.Proofs.Ytgknpbgepgmmmaa.Cm

/- CommandBytes: steps. CommandBytes: the region that writes the document's bytes. The walk of CommandSnap. The walk of CommandBytes. What snapshots, commands and bytes that came in read as. -/
import Derived.Test.YtgknpbgepgmmmaaPart09
import Derived.Deep.RegionHeld3
import Derived.Test.YtgknpbgepgmmmaaPart08
import Derived.WalkKit
import Derived.ProofKit
import Derived.OpenShut
import Derived.ShutString
import Derived.ChangeOld
import Derived.Below
import Derived.Lib.SmallJoins
namespace Go.Proofs.Ytgknpbgepgmmmaa.Cm
open Go.RowKit Bn Kp

set_option linter.unusedSimpArgs false in
set_option maxRecDepth 8000 in
set_option maxHeartbeats 4000000 in
theorem step9_1_3 (c : C9) (Q : Exit → Act → World → Prop) : ∀ a W, T9 c 1 a W → wpOp Try.prog ops9 Q 3 (fun a2 w2 => Sb c.P c.k c.c c.q c.T w2 ∧ T9 c 3 a2 w2) a W := by
  rintro a w9 ⟨vt, rfl, hb, hO, hV⟩
  refine wpOp_step (o := { dst := some 41, op := Op.call { callee := Callee.value (Operand.func 12), args := #[Operand.tmp 40], argTypes := #[2] }, type := 24, pos := "law.go:71", after := #[{ on := 2, ground := Ground.data }], guard := none }) rfl (fun K hK => ?_)
  replace hK := hide hK
  go_simp
  go_wp2_with fail
  refine Calls.mono (refnum_any c.k w9 c.hk.1 c.hk.2) ?_
  rintro e w10 ⟨v1, rfl, hN, hbN⟩
  have hb2 := hb.trans (hbN.mono hb.size)
  have hO2 := own_below4 hO hbN
  have hP2 := Sl.of_own hN
  have hV2 := hV.below hbN
  go_wp2_with fail
  exact hK.out _ _ ⟨c.hS _ hb2, v1, vt, rfl, hb2, hO2, hP2, hV2⟩

set_option linter.unusedSimpArgs false in
set_option maxRecDepth 8000 in
set_option maxHeartbeats 4000000 in
theorem step9_3_4 (c : C9) (Q : Exit → Act → World → Prop) : ∀ a W, T9 c 3 a W → wpOp Try.prog ops9 Q 4 (fun a2 w2 => Sb c.P c.k c.c c.q c.T w2 ∧ T9 c 5 a2 w2) a W := by
  rintro a w9 ⟨v1, vt, rfl, hb, hO, hP, hV⟩
  refine wpOp_step (o := { dst := some 42, op := Op.call { callee := Callee.builtin Builtin.append, args := #[Operand.tmp 38, Operand.tmp 41], argTypes := #[24, 24] }, type := 24, pos := "law.go:71", after := #[{ on := 0, ground := Ground.data }, { on := 3, ground := Ground.data }, { on := 3, ground := Ground.chain }], guard := none }) rfl (fun K hK => ?_)
  replace hK := hide hK
  refine step_append9 w9 rfl (.tmp 38) (.tmp 41) rfl c.W0.heap.size (bs := ([] : List UInt8)) rfl hO rfl hP (enc_pos _) (by have := enc_le c.k; have e : ([] : List UInt8).length = 0 := rfl; omega) hb.size ?_
  intro u1 w10 hO2 hg ha
  have hb2 := grown9 hb hO hg
  have hV2 := hV.grown hg ha
  exact hK.out _ _ ⟨c.hS _ hb2, v1, u1, vt, rfl, hb2, hO2, hV2⟩

set_option linter.unusedSimpArgs false in
set_option maxRecDepth 8000 in
set_option maxHeartbeats 4000000 in
theorem step9_5_7 (c : C9) (Q : Exit → Act → World → Prop) : ∀ a W, T9 c 5 a W → wpOp Try.prog ops9 Q 7 (fun a2 w2 => Sb c.P c.k c.c c.q c.T w2 ∧ T9 c 7 a2 w2) a W := by
  rintro a w9 ⟨v1, u1, vt, rfl, hb, hO, hV⟩
  refine wpOp_step (o := { dst := some 45, op := Op.call { callee := Callee.value (Operand.func 12), args := #[Operand.tmp 44], argTypes := #[2] }, type := 24, pos := "law.go:71", after := #[{ on := 6, ground := Ground.data }, { on := 4, ground := Ground.chain }], guard := none }) rfl (fun K hK => ?_)
  replace hK := hide hK
  go_simp
  go_wp2_with fail
  refine Calls.mono (refnum_any c.c w9 c.hc.1 c.hc.2) ?_
  rintro e w10 ⟨v2, rfl, hN, hbN⟩
  have hb2 := hb.trans (hbN.mono hb.size)
  have hO2 := own_below4 hO hbN
  have hP2 := Sl.of_own hN
  have hV2 := hV.below hbN
  go_wp2_with fail
  exact hK.out _ _ ⟨c.hS _ hb2, v1, u1, v2, vt, rfl, hb2, hO2, hP2, hV2⟩

set_option linter.unusedSimpArgs false in
set_option maxRecDepth 8000 in
set_option maxHeartbeats 4000000 in
theorem step9_7_8 (c : C9) (Q : Exit → Act → World → Prop) : ∀ a W, T9 c 7 a W → wpOp Try.prog ops9 Q 8 (fun a2 w2 => Sb c.P c.k c.c c.q c.T w2 ∧ T9 c 9 a2 w2) a W := by
  rintro a w9 ⟨v1, u1, v2, vt, rfl, hb, hO, hP, hV⟩
  refine wpOp_step (o := { dst := some 46, op := Op.call { callee := Callee.builtin Builtin.append, args := #[Operand.tmp 42, Operand.tmp 45], argTypes := #[24, 24] }, type := 24, pos := "law.go:71", after := #[{ on := 4, ground := Ground.data }, { on := 7, ground := Ground.data }, { on := 7, ground := Ground.chain }], guard := none }) rfl (fun K hK => ?_)
  replace hK := hide hK
  refine step_append9 w9 rfl (.tmp 42) (.tmp 45) rfl c.W0.heap.size (bs := enc c.k) rfl hO rfl hP (enc_pos _) (by have := enc_le c.k; have := enc_le c.c; omega) hb.size ?_
  intro u2 w10 hO2 hg ha
  have hb2 := grown9 hb hO hg
  have hV2 := hV.grown hg ha
  exact hK.out _ _ ⟨c.hS _ hb2, v1, u1, v2, u2, vt, rfl, hb2, hO2, hV2⟩

set_option linter.unusedSimpArgs false in
set_option maxRecDepth 8000 in
set_option maxHeartbeats 4000000 in
theorem step9_9_11 (c : C9) (Q : Exit → Act → World → Prop) : ∀ a W, T9 c 9 a W → wpOp Try.prog ops9 Q 11 (fun a2 w2 => Sb c.P c.k c.c c.q c.T w2 ∧ T9 c 11 a2 w2) a W := by
  rintro a w9 ⟨v1, u1, v2, u2, vt, rfl, hb, hO, hV⟩
  refine wpOp_step (o := { dst := some 49, op := Op.call { callee := Callee.value (Operand.func 12), args := #[Operand.tmp 48], argTypes := #[2] }, type := 24, pos := "law.go:71", after := #[{ on := 10, ground := Ground.data }, { on := 8, ground := Ground.chain }], guard := none }) rfl (fun K hK => ?_)
  replace hK := hide hK
  go_simp
  go_wp2_with fail
  refine Calls.mono (refnum_any c.q w9 c.hq.1 c.hq.2) ?_
  rintro e w10 ⟨v3, rfl, hN, hbN⟩
  have hb2 := hb.trans (hbN.mono hb.size)
  have hO2 := own_below4 hO hbN
  have hP2 := Sl.of_own hN
  have hV2 := hV.below hbN
  go_wp2_with fail
  exact hK.out _ _ ⟨c.hS _ hb2, v1, u1, v2, u2, v3, vt, rfl, hb2, hO2, hP2, hV2⟩

set_option linter.unusedSimpArgs false in
set_option maxRecDepth 8000 in
set_option maxHeartbeats 4000000 in
theorem step9_11_12 (c : C9) (Q : Exit → Act → World → Prop) : ∀ a W, T9 c 11 a W → wpOp Try.prog ops9 Q 12 (fun a2 w2 => Sb c.P c.k c.c c.q c.T w2 ∧ T9 c 13 a2 w2) a W := by
  rintro a w9 ⟨v1, u1, v2, u2, v3, vt, rfl, hb, hO, hP, hV⟩
  refine wpOp_step (o := { dst := some 50, op := Op.call { callee := Callee.builtin Builtin.append, args := #[Operand.tmp 46, Operand.tmp 49], argTypes := #[24, 24] }, type := 24, pos := "law.go:71", after := #[{ on := 8, ground := Ground.data }, { on := 11, ground := Ground.data }, { on := 11, ground := Ground.chain }], guard := none }) rfl (fun K hK => ?_)
  replace hK := hide hK
  refine step_append9 w9 rfl (.tmp 46) (.tmp 49) rfl c.W0.heap.size (bs := (enc c.k ++ enc c.c)) rfl hO rfl hP (enc_pos _) (by have := enc_le c.k; have := enc_le c.c; have := enc_le c.q; simp only [List.length_append]; omega) hb.size ?_
  intro u3 w10 hO2 hg ha
  have hb2 := grown9 hb hO hg
  have hV2 := hV.grown hg ha
  exact hK.out _ _ ⟨c.hS _ hb2, v1, u1, v2, u2, v3, u3, vt, rfl, hb2, hO2, hV2⟩

set_option linter.unusedSimpArgs false in
set_option maxRecDepth 8000 in
set_option maxHeartbeats 4000000 in
theorem step9_14_17 (c : C9) (Q : Exit → Act → World → Prop) : ∀ a W, T9 c 14 a W → wpOp Try.prog ops9 Q 17 (fun a2 w2 => Sb c.P c.k c.c c.q c.T w2 ∧ T9 c 15 a2 w2) a W := by
  rintro a w9 ⟨v1, u1, v2, u2, v3, u3, v4, vt, rfl, hb, hO, hP⟩
  refine wpOp_step (o := { dst := some 55, op := Op.call { callee := Callee.builtin Builtin.append, args := #[Operand.tmp 50, Operand.tmp 54], argTypes := #[24, 24] }, type := 24, pos := "law.go:71", after := #[{ on := 12, ground := Ground.data }, { on := 16, ground := Ground.data }, { on := 16, ground := Ground.chain }], guard := none }) rfl (fun K hK => ?_)
  replace hK := hide hK
  refine step_append9 w9 rfl (.tmp 50) (.tmp 54) rfl c.W0.heap.size (bs := ((enc c.k ++ enc c.c) ++ enc c.q)) rfl hO rfl hP (by have := enc_pos c.t.length; simp only [List.length_append]; omega) (by have := enc_le c.k; have := enc_le c.c; have := enc_le c.q; have := enc_le c.t.length; have := c.ht; simp only [List.length_append]; omega) hb.size ?_
  intro u4 w10 hO2 hg ha
  have hb2 := grown9 hb hO hg
  exact hK.out _ _ ⟨c.hS _ hb2, v1, u1, v2, u2, v3, u3, v4, u4, vt, rfl, hb2, hO2⟩

end Go.Proofs.Ytgknpbgepgmmmaa.Cm
namespace Go.Proofs.Ytgknpbgepgmmmaa.Cm
open Go.RowKit Bn Kp

theorem ns9 : Region.noSelect ops9 = true := by kernel_rfl
theorem at9 : listedOf ops9.size ((tab9[0]?).getD ([], [])).1 = ((((((((((Array.replicate ops9.size false).setIfInBounds 0 true).setIfInBounds 1 true).setIfInBounds 2 true).setIfInBounds 5 true).setIfInBounds 6 true).setIfInBounds 9 true).setIfInBounds 10 true).setIfInBounds 13 true).setIfInBounds 14 true) := by kernel_rfl
set_option linter.unusedSimpArgs false in
set_option maxRecDepth 8000 in
set_option maxHeartbeats 20000000 in
theorem takes9 (c : C9) {Q : Exit → Act → World → Prop} {w : World} (hQ : ∀ c a w, ¬ Q (.panic c) a w) (d : Sb c.P c.k c.c c.q c.T w)
    (h : wpAnyH Try.prog .any ops9 Q (Sb c.P c.k c.c c.q c.T) 10 (listedOf ops9.size ((tab9[0]?).getD ([], [])).1) (fr9 c (.slice none 0 0) c.x41 c.x42 c.x45 c.x46 c.x49 c.x50 c.x53 c.x54 c.x55) w) :
    wpAnyH Try.prog .any ops9 Q (Sb c.P c.k c.c c.q c.T) 19 (Array.replicate ops9.size false) (fr9z c) w := by
  rw [at9] at h
  have H := hide h
  have hns := ns9
  clear h
  dsimp only [fr9z]
  refine wpAnyH_take (i := 0) (oi := { dst := some 38, op := Op.move (Operand.tmp 12), type := 24, pos := "law.go:71", after := #[], guard := none }) (v := .slice none 0 0) rfl hns (by kernel_rfl) (by kernel_rfl) (fun c a w h => absurd h (hQ c _ w)) (Or.inl ⟨by rfl, by intro w hSw; (try dsimp only at hSw); go_simp⟩) (by assumption) ?_
  (try simp only [Act.put, List.setIfInBounds_toArray, List.set_cons_zero, List.set_cons_succ])
  refine wpAnyH_take (i := 1) (oi := { dst := some 39, op := Op.fieldAddr 23 (Operand.tmp 4) 0, type := 0, pos := "law.go:71", after := #[], guard := none }) (v := .pointer (some ⟨c.P, 0, none⟩)) rfl hns (by kernel_rfl) (by kernel_rfl) (fun c a w h => absurd h (hQ c _ w)) (Or.inl ⟨by rfl, by intro w hSw; (try dsimp only at hSw); go_simp⟩) (by assumption) ?_
  (try simp only [Act.put, List.setIfInBounds_toArray, List.set_cons_zero, List.set_cons_succ])
  refine wpAnyH_take (i := 2) (oi := { dst := some 40, op := Op.load 3 (Operand.tmp 39), type := 3, pos := "law.go:71", after := #[{ on := 1, ground := Ground.data }], guard := none }) (v := .int .i64 c.k) rfl hns (by kernel_rfl) (by kernel_rfl) (fun c a w h => absurd h (hQ c _ w)) (Or.inl ⟨by rfl, by intro w hSw; (try dsimp only at hSw); go_simp⟩) (by assumption) ?_
  (try simp only [Act.put, List.setIfInBounds_toArray, List.set_cons_zero, List.set_cons_succ])
  refine wpAnyH_take (i := 5) (oi := { dst := some 43, op := Op.fieldAddr 23 (Operand.tmp 4) 1, type := 0, pos := "law.go:71", after := #[], guard := none }) (v := .pointer (some ⟨c.P, 1, none⟩)) rfl hns (by kernel_rfl) (by kernel_rfl) (fun c a w h => absurd h (hQ c _ w)) (Or.inl ⟨by rfl, by intro w hSw; (try dsimp only at hSw); go_simp⟩) (by assumption) ?_
  (try simp only [Act.put, List.setIfInBounds_toArray, List.set_cons_zero, List.set_cons_succ])
  refine wpAnyH_take (i := 6) (oi := { dst := some 44, op := Op.load 3 (Operand.tmp 43), type := 3, pos := "law.go:71", after := #[{ on := 5, ground := Ground.data }], guard := none }) (v := .int .i64 c.c) rfl hns (by kernel_rfl) (by kernel_rfl) (fun c a w h => absurd h (hQ c _ w)) (Or.inl ⟨by rfl, by intro w hSw; (try dsimp only at hSw); go_simp⟩) (by assumption) ?_
  (try simp only [Act.put, List.setIfInBounds_toArray, List.set_cons_zero, List.set_cons_succ])
  refine wpAnyH_take (i := 9) (oi := { dst := some 47, op := Op.fieldAddr 23 (Operand.tmp 4) 2, type := 0, pos := "law.go:71", after := #[], guard := none }) (v := .pointer (some ⟨c.P, 2, none⟩)) rfl hns (by kernel_rfl) (by kernel_rfl) (fun c a w h => absurd h (hQ c _ w)) (Or.inl ⟨by rfl, by intro w hSw; (try dsimp only at hSw); go_simp⟩) (by assumption) ?_
  (try simp only [Act.put, List.setIfInBounds_toArray, List.set_cons_zero, List.set_cons_succ])
  refine wpAnyH_take (i := 10) (oi := { dst := some 48, op := Op.load 2 (Operand.tmp 47), type := 2, pos := "law.go:71", after := #[{ on := 9, ground := Ground.data }], guard := none }) (v := .int .i64 c.q) rfl hns (by kernel_rfl) (by kernel_rfl) (fun c a w h => absurd h (hQ c _ w)) (Or.inl ⟨by rfl, by intro w hSw; (try dsimp only at hSw); go_simp⟩) (by assumption) ?_
  (try simp only [Act.put, List.setIfInBounds_toArray, List.set_cons_zero, List.set_cons_succ])
  refine wpAnyH_take (i := 13) (oi := { dst := some 51, op := Op.fieldAddr 23 (Operand.tmp 4) 3, type := 0, pos := "law.go:71", after := #[], guard := none }) (v := .pointer (some ⟨c.P, 3, none⟩)) rfl hns (by kernel_rfl) (by kernel_rfl) (fun c a w h => absurd h (hQ c _ w)) (Or.inl ⟨by rfl, by intro w hSw; (try dsimp only at hSw); go_simp⟩) (by assumption) ?_
  (try simp only [Act.put, List.setIfInBounds_toArray, List.set_cons_zero, List.set_cons_succ])
  refine wpAnyH_take (i := 14) (oi := { dst := some 52, op := Op.load 9 (Operand.tmp 51), type := 9, pos := "law.go:71", after := #[{ on := 13, ground := Ground.data }], guard := none }) (v := .string c.T) rfl hns (by kernel_rfl) (by kernel_rfl) (fun c a w h => absurd h (hQ c _ w)) (Or.inl ⟨by rfl, by intro w hSw; (try dsimp only at hSw); go_simp⟩) (by assumption) ?_
  (try simp only [Act.put, List.setIfInBounds_toArray, List.set_cons_zero, List.set_cons_succ])
  exact H.out
set_option maxRecDepth 8000 in
set_option maxHeartbeats 4000000 in
theorem cmd_r9 {Q : Exit → Act → World → Prop} {w : World} {P : Nat} {k c q : Int} {T : ByteArray} {t : List UInt8} {x0 x1 x2 x3 x5 x6 x7 x8 x9 x10 x11 x13 x14 x15 x16 x17 x18 x19 x20 x21 x22 x23 x24 x25 x26 x27 x28 x29 x30 x31 x32 x33 x34 x35 x36 x37 x38 x39 x40 x41 x42 x43 x44 x45 x46 x47 x48 x49 x50 x51 x52 x53 x54 x55 x56 x57 x58 x59 x60 x61 x62 x63 x64 x65 x66 x67 x68 x69 x70 x71 x72 x73 x74 x75 x76 x77 x78 x79 x80 x81 x82 x83 x84 x85 x86 x87 x88 x89 x90 x91 x92 x93 x94 x95 x96 x97 x98 x99 x100 x101 x102 x103 x104 x105 x106 x107 x108 x109 x110 x111 x112 x113 x114 x115 x116 x117 x118 x119 x120 x121 x122 x123 x124 x125 x126 x127 x128 x129 x130 x131 x132 x133 x134 x135 x136 x137 x138 x139 x140 x141 x142 x143 x144 x145 x146 x147 x148 x149 x150 x151 x152 x153 x154 x155 x156 x157 x158 : Value} (hT : (⟨t.toArray⟩ : ByteArray) = T) (hk : I64 k) (hc : I64 c) (hq : I64 q) (ht : t.length ≤ 1000) (hS : ∀ u, Below w.heap.size w u → Sb P k c q T u)
    (hQ : ∀ (y38 y39 y40 y41 y42 y43 y44 y45 y46 y47 y48 y49 y50 y51 y52 y53 y54 y55 u4 : Value) (wc : World), Below w.heap.size w wc → wc.ownsRow w.heap.size 5 1 u4 (((enc k ++ enc c) ++ enc q) ++ (enc t.length ++ t)).length (cells8 (((enc k ++ enc c) ++ enc q) ++ (enc t.length ++ t))) → Q .normal ⟨#[x0, x1, x2, x3, .pointer (some ⟨P, 0, none⟩), x5, x6, x7, x8, x9, x10, x11, u4, x13, x14, x15, x16, x17, x18, x19, x20, x21, x22, x23, x24, x25, x26, x27, x28, x29, x30, x31, x32, x33, x34, x35, x36, x37, y38, y39, y40, y41, y42, y43, y44, y45, y46, y47, y48, y49, y50, y51, y52, y53, y54, y55, x56, x57, x58, x59, x60, x61, x62, x63, x64, x65, x66, x67, x68, x69, x70, x71, x72, x73, x74, x75, x76, x77, x78, x79, x80, x81, x82, x83, x84, x85, x86, x87, x88, x89, x90, x91, x92, x93, x94, x95, x96, x97, x98, x99, x100, x101, x102, x103, x104, x105, x106, x107, x108, x109, x110, x111, x112, x113, x114, x115, x116, x117, x118, x119, x120, x121, x122, x123, x124, x125, x126, x127, x128, x129, x130, x131, x132, x133, x134, x135, x136, x137, x138, x139, x140, x141, x142, x143, x144, x145, x146, x147, x148, x149, x150, x151, x152, x153, x154, x155, x156, x157, x158], []⟩ wc) :
    (Code.region 9 ops9 true).wp Try.prog (NoPanic Q) ⟨#[x0, x1, x2, x3, .pointer (some ⟨P, 0, none⟩), x5, x6, x7, x8, x9, x10, x11, .slice none 0 0, x13, x14, x15, x16, x17, x18, x19, x20, x21, x22, x23, x24, x25, x26, x27, x28, x29, x30, x31, x32, x33, x34, x35, x36, x37, x38, x39, x40, x41, x42, x43, x44, x45, x46, x47, x48, x49, x50, x51, x52, x53, x54, x55, x56, x57, x58, x59, x60, x61, x62, x63, x64, x65, x66, x67, x68, x69, x70, x71, x72, x73, x74, x75, x76, x77, x78, x79, x80, x81, x82, x83, x84, x85, x86, x87, x88, x89, x90, x91, x92, x93, x94, x95, x96, x97, x98, x99, x100, x101, x102, x103, x104, x105, x106, x107, x108, x109, x110, x111, x112, x113, x114, x115, x116, x117, x118, x119, x120, x121, x122, x123, x124, x125, x126, x127, x128, x129, x130, x131, x132, x133, x134, x135, x136, x137, x138, x139, x140, x141, x142, x143, x144, x145, x146, x147, x148, x149, x150, x151, x152, x153, x154, x155, x156, x157, x158], []⟩ w := by
  have hd := (Below.refl w.heap.size w).drew
  obtain ⟨C, hC⟩ : ∃ C : C9, C = ⟨w.drew, P, k, c, q, T, t, hT, hk, hc, hq, ht, fun u hu => hS u (hd.trans hu), x0, x1, x2, x3, x5, x6, x7, x8, x9, x10, x11, x13, x14, x15, x16, x17, x18, x19, x20, x21, x22, x23, x24, x25, x26, x27, x28, x29, x30, x31, x32, x33, x34, x35, x36, x37, x38, x39, x40, x41, x42, x43, x44, x45, x46, x47, x48, x49, x50, x51, x52, x53, x54, x55, x56, x57, x58, x59, x60, x61, x62, x63, x64, x65, x66, x67, x68, x69, x70, x71, x72, x73, x74, x75, x76, x77, x78, x79, x80, x81, x82, x83, x84, x85, x86, x87, x88, x89, x90, x91, x92, x93, x94, x95, x96, x97, x98, x99, x100, x101, x102, x103, x104, x105, x106, x107, x108, x109, x110, x111, x112, x113, x114, x115, x116, x117, x118, x119, x120, x121, x122, x123, x124, x125, x126, x127, x128, x129, x130, x131, x132, x133, x134, x135, x136, x137, x138, x139, x140, x141, x142, x143, x144, x145, x146, x147, x148, x149, x150, x151, x152, x153, x154, x155, x156, x157, x158⟩ := ⟨_, rfl⟩
  have d : Sb C.P C.k C.c C.q C.T w.drew := by subst hC; exact hS _ hd
  have h0 : T9 C 0 (fr9 C (.slice none 0 0) C.x41 C.x42 C.x45 C.x46 C.x49 C.x50 C.x53 C.x54 C.x55) w.drew := by subst hC; exact ⟨rfl, Below.refl _ _, enc_nil_own _ _⟩
  have hf : (⟨#[x0, x1, x2, x3, .pointer (some ⟨P, 0, none⟩), x5, x6, x7, x8, x9, x10, x11, .slice none 0 0, x13, x14, x15, x16, x17, x18, x19, x20, x21, x22, x23, x24, x25, x26, x27, x28, x29, x30, x31, x32, x33, x34, x35, x36, x37, x38, x39, x40, x41, x42, x43, x44, x45, x46, x47, x48, x49, x50, x51, x52, x53, x54, x55, x56, x57, x58, x59, x60, x61, x62, x63, x64, x65, x66, x67, x68, x69, x70, x71, x72, x73, x74, x75, x76, x77, x78, x79, x80, x81, x82, x83, x84, x85, x86, x87, x88, x89, x90, x91, x92, x93, x94, x95, x96, x97, x98, x99, x100, x101, x102, x103, x104, x105, x106, x107, x108, x109, x110, x111, x112, x113, x114, x115, x116, x117, x118, x119, x120, x121, x122, x123, x124, x125, x126, x127, x128, x129, x130, x131, x132, x133, x134, x135, x136, x137, x138, x139, x140, x141, x142, x143, x144, x145, x146, x147, x148, x149, x150, x151, x152, x153, x154, x155, x156, x157, x158], []⟩ : Act) = fr9z C := by subst hC; rfl
  rw [hf]
  refine wp_region_held_drew (S := Sb C.P C.k C.c C.q C.T) (by kernel_rfl) d (fun _ => ?_)
  refine takes9 C (fun _ _ _ h => h) d ?_
  refine held_steps 19 tab9 es9 [16] (T9 C) tab9_ok tab9_es tab9_en (s := 0) (by kernel_rfl) h0 ?_ ?_
  · refine List.forall_mem_cons.2 ⟨?_, fun _ h => nomatch h⟩
    subst hC
    rintro a wE ⟨v1, u1, v2, u2, v3, u3, v4, u4, vt, rfl, hb, hO⟩
    refine NoPanic.normal ?_
    exact hQ _ _ _ _ _ _ _ _ _ _ _ _ _ _ _ _ _ _ u4 wE (hd.trans hb) hO
  refine List.forall_mem_cons.2 ⟨step9_0_3 C _, ?_⟩
  refine List.forall_mem_cons.2 ⟨step9_0_15 C _, ?_⟩
  refine List.forall_mem_cons.2 ⟨step9_1_3 C _, ?_⟩
  refine List.forall_mem_cons.2 ⟨step9_2_4 C _, ?_⟩
  refine List.forall_mem_cons.2 ⟨step9_2_15 C _, ?_⟩
  refine List.forall_mem_cons.2 ⟨step9_3_4 C _, ?_⟩
  refine List.forall_mem_cons.2 ⟨step9_4_7 C _, ?_⟩
  refine List.forall_mem_cons.2 ⟨step9_4_15 C _, ?_⟩
  refine List.forall_mem_cons.2 ⟨step9_5_7 C _, ?_⟩
  refine List.forall_mem_cons.2 ⟨step9_6_8 C _, ?_⟩
  refine List.forall_mem_cons.2 ⟨step9_6_15 C _, ?_⟩
  refine List.forall_mem_cons.2 ⟨step9_7_8 C _, ?_⟩
  refine List.forall_mem_cons.2 ⟨step9_8_11 C _, ?_⟩
  refine List.forall_mem_cons.2 ⟨step9_8_15 C _, ?_⟩
  refine List.forall_mem_cons.2 ⟨step9_9_11 C _, ?_⟩
  refine List.forall_mem_cons.2 ⟨step9_10_12 C _, ?_⟩
  refine List.forall_mem_cons.2 ⟨step9_10_15 C _, ?_⟩
  refine List.forall_mem_cons.2 ⟨step9_11_12 C _, ?_⟩
  refine List.forall_mem_cons.2 ⟨step9_12_15 C _, ?_⟩
  refine List.forall_mem_cons.2 ⟨step9_13_16 C _, ?_⟩
  refine List.forall_mem_cons.2 ⟨step9_14_17 C _, ?_⟩
  refine List.forall_mem_cons.2 ⟨step9_15_18 C _, ?_⟩
  exact fun _ h => nomatch h

end Go.Proofs.Ytgknpbgepgmmmaa.Cm
namespace Go.Proofs.Ytgknpbgepgmmmaa.Cm
open Go.RowKit Bn Kp

/-- A snapshot whose lists came in (they are read in w); its block lies at S. -/
def SnS (w W : World) (S : Nat) (s : Snp) : Prop :=
  ∃ ac lc cc ad ld cd, W.heap[S]? = some (.cells #[.int .i64 s.idx, .int .i64 s.term, .slice ac lc cc, .slice ad ld cd] 62 (0, 0)) ∧ SnV w ac lc cc ad ld cd s
theorem SnS.below {w W W' : World} {S : Nat} {s : Snp} (h : SnS w W S s) (hb : Below W.heap.size W W') : SnS w W' S s := by
  obtain ⟨ac, lc, cc, ad, ld, cd, h1, h2⟩ := h
  exact ⟨ac, lc, cc, ad, ld, cd, (hb.block _ (lt_of_block h1)).trans h1, h2⟩
/-- The two snapshots of the law. -/
structure Two (w W : World) (s t : Snp) : Prop where
  s : SnS w W w.heap.size s
  t : SnS w W (w.heap.size + 1) t
  b : Below w.heap.size w W
theorem Two.below {w W W' : World} {s t : Snp} (h : Two w W s t) (hb : Below W.heap.size W W') : Two w W' s t := ⟨h.s.below hb, h.t.below hb, h.b.trans (hb.mono h.b.size)⟩

theorem isR_take {w : World} {ao : Option Addr} {l c : Nat} {ns : List Int} (h : IsR w (.slice ao l c) (cI ns)) (k : Nat) (hk : k ≤ l) : IsR w (.slice ao k c) (cI (ns.take k)) := by
  obtain ⟨ao', c', e, h1, h2, h4⟩ := h
  simp only [Value.slice.injEq] at e
  obtain ⟨rfl, rfl, rfl⟩ := e
  rw [cI_len] at h1 h4 hk
  have hl : (cI (ns.take k)).length = k := by rw [cI_len, List.length_take]; omega
  refine ⟨ao, c, by rw [hl], by omega, h2, fun hp => ?_⟩
  rw [hl] at hp
  obtain ⟨g, off, ha, hc⟩ := h4 (by omega)
  refine ⟨g, off, ha, fun j u hj => hc j u ?_⟩
  have e : cI (ns.take k) = (cI ns).take k := by simp [cI, List.map_take]
  rw [e, List.getElem?_take] at hj
  split at hj
  · exact hj
  · simp at hj

theorem short_v (ao : Option Addr) (l c : Nat) (W : World) (h1 : l ≤ c) (h2 : c ≤ maxLen) :
    Calls Try.prog 14 #[.slice ao l c, .int .i64 100] W fun e w' => e = .returned (.slice ao (min l 100) c) ∧ w' = W := by
  have h2' : c ≤ 9223372036854775807 := h2
  by_cases hl : 100 < l
  · have hl' : (100 : Int) < (l : Int) := by omega
    have hc : (100 : Int) ≤ (c : Int) := by omega
    have hm := hide (Nat.min_eq_right (show 100 ≤ l by omega))
    rw [hm.out]
    clear hl
    go_enter Try.func14, Try.ntmps14
    go_wp2_with fail
    go_ret
    exact ⟨rfl, rfl⟩
  · have hl' : ¬ (100 : Int) < (l : Int) := by omega
    have hm := hide (Nat.min_eq_left (show l ≤ 100 by omega))
    rw [hm.out]
    clear hl
    go_enter Try.func14, Try.ntmps14
    go_wp2_with fail
    go_ret
    exact ⟨rfl, rfl⟩
/-- The data cut to a hundred bytes, the members to nine. -/
def cutD (s : Snp) : Snp := ⟨s.idx, s.term, s.conf, s.data.take 100⟩
def cutN (s : Snp) : Snp := ⟨s.idx, s.term, s.conf.take 9, s.data⟩
theorem sl_take_min {w : World} {ao : Option Addr} {l c : Nat} {bs : List UInt8} (h : Sl w (.slice ao l c) bs) : Sl w (.slice ao (min l 100) c) (bs.take 100) := by
  have hl := h.len
  by_cases h1 : l ≤ 100
  · rw [Nat.min_eq_left h1, List.take_of_length_le (by omega)]
    exact h
  · rw [Nat.min_eq_right (by omega)]
    exact h.take 100 (by omega)

theorem sl_caps {w : World} {ao : Option Addr} {l c : Nat} {bs : List UInt8} (h : Sl w (.slice ao l c) bs) : l ≤ c ∧ c ≤ maxLen := by
  obtain ⟨_, _, e, h1, h2, _⟩ := h
  simp only [Value.slice.injEq] at e
  obtain ⟨rfl, rfl, rfl⟩ := e
  exact ⟨h1, h2⟩
theorem isR_caps {w : World} {ao : Option Addr} {l c : Nat} {xs : List Value} (h : IsR w (.slice ao l c) xs) : l = xs.length ∧ l ≤ c ∧ c ≤ maxLen := by
  obtain ⟨_, _, e, h1, h2, _⟩ := h
  simp only [Value.slice.injEq] at e
  obtain ⟨rfl, rfl, rfl⟩ := e
  exact ⟨rfl, h1, h2⟩

/-- What one block and one text read as. -/
abbrev S4 (P : Nat) (c0 c1 c2 c3 va : Value) (Xa : ByteArray) (u : World) : Prop :=
  u.cell? ⟨P, 0, none⟩ = some c0 ∧ u.cell? ⟨P, 1, none⟩ = some c1 ∧ u.cell? ⟨P, 2, none⟩ = some c2 ∧ u.cell? ⟨P, 3, none⟩ = some c3 ∧ (convert 24 9 va).run Try.prog u = .ok (.string Xa) u
/-- What the two blocks read as. -/
abbrev SS (u w : World) (s1 t1 : Snp) (ac : Option Addr) (nc cc : Nat) (ad : Option Addr) (nd cd : Nat) (bc : Option Addr) (oc dc : Nat) (bd : Option Addr) (ne dd : Nat) : Prop :=
  (u.cell? ⟨w.heap.size, 0, none⟩ = some (.int .i64 s1.idx) ∧ u.cell? ⟨w.heap.size, 1, none⟩ = some (.int .i64 s1.term) ∧ u.cell? ⟨w.heap.size, 2, none⟩ = some (.slice ac nc cc) ∧ u.cell? ⟨w.heap.size, 3, none⟩ = some (.slice ad nd cd)) ∧
  (u.cell? ⟨w.heap.size + 1, 0, none⟩ = some (.int .i64 t1.idx) ∧ u.cell? ⟨w.heap.size + 1, 1, none⟩ = some (.int .i64 t1.term) ∧ u.cell? ⟨w.heap.size + 1, 2, none⟩ = some (.slice bc oc dc) ∧ u.cell? ⟨w.heap.size + 1, 3, none⟩ = some (.slice bd ne dd))
theorem ss_of {W w : World} {s1 t1 : Snp} {ac : Option Addr} {nc cc : Nat} {ad : Option Addr} {nd cd : Nat} {bc : Option Addr} {oc dc : Nat} {bd : Option Addr} {ne dd : Nat} (h1 : W.heap[w.heap.size]? = some (.cells #[.int .i64 s1.idx, .int .i64 s1.term, .slice ac nc cc, .slice ad nd cd] 62 (0, 0))) (h2 : W.heap[w.heap.size + 1]? = some (.cells #[.int .i64 t1.idx, .int .i64 t1.term, .slice bc oc dc, .slice bd ne dd] 62 (0, 0))) : SS W w s1 t1 ac nc cc ad nd cd bc oc dc bd ne dd := ⟨cells_Snp h1, cells_Snp h2⟩

set_option maxRecDepth 4000 in
set_option maxHeartbeats 8000000 in
theorem snap_law {w : World} (s t : Snp) {ac ad bc bd : Option Addr} {lc cc ld cd mc dc md dd : Nat} (hs : SnV w ac lc cc ad ld cd s) (ht : SnV w bc mc dc bd md dd t) (hso : s.ok) (hto : t.ok) (at_ : Int) (x : Int) (hx : 0 ≤ x ∧ x ≤ 255) :
    Calls Try.prog 6 #[.agg #[.int .i64 s.idx, .int .i64 s.term, .slice ac lc cc, .slice ad ld cd], .agg #[.int .i64 t.idx, .int .i64 t.term, .slice bc mc dc, .slice bd md dd], .int .i64 at_, .int .u8 x] w fun e w' => e = .returned (.bool true) ∧ Below w.heap.size w w' := by
  obtain ⟨W0, hW⟩ : ∃ W, Hid (W = (w.alloc (.cells #[.int .i64 s.idx, .int .i64 s.term, .slice ac lc cc, .slice ad ld cd] 62)).alloc (.cells #[.int .i64 t.idx, .int .i64 t.term, .slice bc mc dc, .slice bd md dd] 62)) := ⟨_, (rfl : _ = _)⟩
  have HB0 : Hid (Below w.heap.size w W0) := by rw [hW.out]; exact ((Below.refl _ w).alloc (Nat.le_refl _) _).alloc (by simp) _
  have HX1 : Hid (W0.heap[w.heap.size]? = some (.cells #[.int .i64 s.idx, .int .i64 s.term, .slice ac lc cc, .slice ad ld cd] 62 (0, 0))) := by
    rw [hW.out]
    exact (((Below.refl _ _).alloc (Nat.le_refl _) _).block w.heap.size (by simp)).trans (heap_alloc_new _ _)
  have HX2 : Hid (W0.heap[w.heap.size + 1]? = some (.cells #[.int .i64 t.idx, .int .i64 t.term, .slice bc mc dc, .slice bd md dd] 62 (0, 0))) := by rw [hW.out]; exact heap_alloc2_new _ _ _
  have HG := hide (begun_any W0)
  have HS := hide hs
  have HT := hide ht
  have HSO := hide hso
  have HTO := hide hto
  have hS1 := HS.out.data
  have hT1 := HT.out.data
  obtain ⟨p1, p2⟩ := sl_caps hS1
  obtain ⟨r1, r2⟩ := sl_caps hT1
  have HSH1 := hide (fun W => short_v ad ld cd W p1 p2)
  have HSH2 := hide (fun W => short_v bd md dd W r1 r2)
  obtain ⟨nd, hnd⟩ : ∃ n, Hid (min ld 100 = n) := ⟨_, (rfl : _ = _)⟩
  obtain ⟨ne, hne⟩ : ∃ n, Hid (min md 100 = n) := ⟨_, (rfl : _ = _)⟩
  rw [hnd.out] at HSH1
  rw [hne.out] at HSH2
  have HD1 : Hid (Sl w (.slice ad nd cd) (s.data.take 100)) := by rw [← hnd.out]; exact sl_take_min hS1
  have HD2 : Hid (Sl w (.slice bd ne dd) (t.data.take 100)) := by rw [← hne.out]; exact sl_take_min hT1
  clear hs ht hso hto hS1 hT1 p1 p2 r1 r2
  go_enter Try.func6, Try.ntmps6
  go_upto_region 1 with fail
  rw [← hW.out]
  go_wp2_with fail
  refine Calls.mono HG.out ?_
  rintro e w1 ⟨rfl, HB1⟩
  have hx1 := (HB1.out.block _ (lt_of_block HX1.out)).trans HX1.out
  have hx2 := (HB1.out.block _ (lt_of_block HX2.out)).trans HX2.out
  have HY1 := hide hx1
  have HY2 := hide hx2
  obtain ⟨a0, a1, a2, a3⟩ := cells_Snp hx1
  obtain ⟨b0, b1, b2, b3⟩ := cells_Snp hx2
  have fa := fun i => frozen_of_row w1 _ i _ _ hx1
  have fb := fun i => frozen_of_row w1 _ i _ _ hx2
  have HBw1 := hide (HB0.out.trans (HB1.out.mono HB0.out.size))
  clear HG HB1 hx1 hx2 HX1 HX2
  go_upto_region 4 with fail
  go_cut [] from 19 to 27 (fun wc => wc.heap[w.heap.size]? = some (.cells #[.int .i64 s.idx, .int .i64 s.term, .slice ac lc cc, .slice ad nd cd] 62 (0, 0)) ∧ wc.heap[w.heap.size + 1]? = some (.cells #[.int .i64 t.idx, .int .i64 t.term, .slice bc mc dc, .slice bd ne dd] 62 (0, 0)) ∧ Hid (Below w.heap.size w wc))
  case first =>
    have S1 := hide (HSH1.out w1.drew)
    have S2 := hide (HSH2.out w1.drew)
    have hfin : Hid (((w1.setCell ⟨w.heap.size, 3, none⟩ (.slice ad nd cd)).setCell ⟨w.heap.size + 1, 3, none⟩ (.slice bd ne dd)).heap[w.heap.size]? = some (.cells #[.int .i64 s.idx, .int .i64 s.term, .slice ac lc cc, .slice ad nd cd] 62 (0, 0)) ∧ ((w1.setCell ⟨w.heap.size, 3, none⟩ (.slice ad nd cd)).setCell ⟨w.heap.size + 1, 3, none⟩ (.slice bd ne dd)).heap[w.heap.size + 1]? = some (.cells #[.int .i64 t.idx, .int .i64 t.term, .slice bc mc dc, .slice bd ne dd] 62 (0, 0)) ∧ Hid (Below w.heap.size w ((w1.setCell ⟨w.heap.size, 3, none⟩ (.slice ad nd cd)).setCell ⟨w.heap.size + 1, 3, none⟩ (.slice bd ne dd)))) := by
      refine ⟨?_, ?_, ?_⟩
      · rw [Below.heap_setCell _ _ _ _ (show w.heap.size ≠ w.heap.size + 1 by omega)]
        exact heap_setCell_same w1 _ 3 _ 62 _ HY1.out
      · have h := (Below.heap_setCell w1 ⟨w.heap.size, 3, none⟩ (.slice ad nd cd) (w.heap.size + 1) (show w.heap.size + 1 ≠ w.heap.size by omega)).trans HY2.out
        exact heap_setCell_same _ _ 3 _ 62 _ h
      · exact (HBw1.out.setCell (p := ⟨w.heap.size, 3, none⟩) (Nat.le_refl _) _).setCell (p := ⟨w.heap.size + 1, 3, none⟩) (by show _ ≤ w.heap.size + 1; omega) _
    refine wp_region_noPanic ?_
    go_region_with (first
      | (go_at_call 14; (with_reducible refine Calls.mono S1.out ?_); rintro e w2 ⟨rfl, hw2⟩; have hw2' := hw2.symm; subst hw2')
      | (go_at_call 14; (with_reducible refine Calls.mono S2.out ?_); rintro e w2 ⟨rfl, hw2⟩; have hw2' := hw2.symm; subst hw2'))
    all_goals refine NoPanic.normal ?_
    all_goals go_wp2_with fail
    all_goals go_meet
    all_goals exact ⟨hfin.out.1, hfin.out.2.1, hfin.out.2.2.out.drew⟩
  case rest =>
    obtain ⟨h1, h2, HB2⟩ := hcut
    clear a0 a1 a2 a3 b0 b1 b2 b3 fa fb HSH1 HSH2 HY1 HY2 HBw1
    obtain ⟨w2, hw2⟩ : ∃ x, x = wc := ⟨_, rfl⟩
    subst hw2
    obtain ⟨a0, a1, a2, a3⟩ := cells_Snp h1
    have fa := fun i => frozen_of_row w2 _ i _ _ h1
    have H1 := hide h1
    have H2 := hide h2
    obtain ⟨el, l1, l2⟩ := isR_caps HS.out.conf
    obtain ⟨em, m1, m2⟩ := isR_caps HT.out.conf
    have EL := hide el
    have EM := hide em
    have l2' : cc ≤ 9223372036854775807 := l2
    have m2' : dc ≤ 9223372036854775807 := m2
    clear h1 h2 el em l2 m2
    go_upto_if 30 with fail
    go_cut [] from 30 to 35 (fun wc => ∃ nc, wc.heap[w.heap.size]? = some (.cells #[.int .i64 s.idx, .int .i64 s.term, .slice ac nc cc, .slice ad nd cd] 62 (0, 0)) ∧ wc.heap[w.heap.size + 1]? = some (.cells #[.int .i64 t.idx, .int .i64 t.term, .slice bc mc dc, .slice bd ne dd] 62 (0, 0)) ∧ Hid (Below w.heap.size w wc) ∧ Hid (IsR w (.slice ac nc cc) (cI (s.conf.take 9))))
    case first =>
      by_cases hl : 9 < lc
      · have hlI : (9 : Int) < (lc : Int) := by omega
        have hcI : (9 : Int) ≤ (cc : Int) := by omega
        have hq : Hid ((w2.setCell ⟨w.heap.size, 2, none⟩ (.slice ac 9 cc)).heap[w.heap.size]? = some (.cells #[.int .i64 s.idx, .int .i64 s.term, .slice ac 9 cc, .slice ad nd cd] 62 (0, 0)) ∧ (w2.setCell ⟨w.heap.size, 2, none⟩ (.slice ac 9 cc)).heap[w.heap.size + 1]? = some (.cells #[.int .i64 t.idx, .int .i64 t.term, .slice bc mc dc, .slice bd ne dd] 62 (0, 0)) ∧ Hid (Below w.heap.size w (w2.setCell ⟨w.heap.size, 2, none⟩ (.slice ac 9 cc))) ∧ Hid (IsR w (.slice ac 9 cc) (cI (s.conf.take 9)))) :=
          ⟨heap_setCell_same w2 _ 2 _ 62 _ H1.out, (Below.heap_setCell _ _ _ _ (show w.heap.size + 1 ≠ w.heap.size by omega)).trans H2.out, HB2.out.setCell (p := ⟨w.heap.size, 2, none⟩) (Nat.le_refl _) _, isR_take HS.out.conf 9 (by omega)⟩
        clear hl
        go_wp2_with fail
        go_meet
        exact ⟨9, hq.out⟩
      · have hlI : ¬ (9 : Int) < (lc : Int) := by omega
        have hq : Hid (IsR w (.slice ac lc cc) (cI (s.conf.take 9))) := by
          have h9 := EL.out
          rw [cI_len] at h9
          rw [List.take_of_length_le (by omega)]
          exact HS.out.conf
        clear hl
        go_wp2_with fail
        go_meet
        exact ⟨lc, H1.out, H2.out, HB2, hq⟩
    case rest =>
      obtain ⟨nc, h1, h2, HB3, HN1⟩ := hcut
      clear a0 a1 a2 a3 fa H1 H2 HB2
      obtain ⟨w3, hw3⟩ : ∃ x, x = wc := ⟨_, rfl⟩
      subst hw3
      obtain ⟨b0, b1, b2, b3⟩ := cells_Snp h2
      have fb := fun i => frozen_of_row w3 _ i _ _ h2
      have H1 := hide h1
      have H2 := hide h2
      clear h1 h2
      go_upto_if 38 with fail
      go_cut [] from 38 to 43 (fun wc => ∃ oc, wc.heap[w.heap.size]? = some (.cells #[.int .i64 s.idx, .int .i64 s.term, .slice ac nc cc, .slice ad nd cd] 62 (0, 0)) ∧ wc.heap[w.heap.size + 1]? = some (.cells #[.int .i64 t.idx, .int .i64 t.term, .slice bc oc dc, .slice bd ne dd] 62 (0, 0)) ∧ Hid (Below w.heap.size w wc) ∧ Hid (IsR w (.slice bc oc dc) (cI (t.conf.take 9))))
      case first =>
        by_cases hl : 9 < mc
        · have hlI : (9 : Int) < (mc : Int) := by omega
          have hcI : (9 : Int) ≤ (dc : Int) := by omega
          have hq : Hid ((w3.setCell ⟨w.heap.size + 1, 2, none⟩ (.slice bc 9 dc)).heap[w.heap.size]? = some (.cells #[.int .i64 s.idx, .int .i64 s.term, .slice ac nc cc, .slice ad nd cd] 62 (0, 0)) ∧ (w3.setCell ⟨w.heap.size + 1, 2, none⟩ (.slice bc 9 dc)).heap[w.heap.size + 1]? = some (.cells #[.int .i64 t.idx, .int .i64 t.term, .slice bc 9 dc, .slice bd ne dd] 62 (0, 0)) ∧ Hid (Below w.heap.size w (w3.setCell ⟨w.heap.size + 1, 2, none⟩ (.slice bc 9 dc))) ∧ Hid (IsR w (.slice bc 9 dc) (cI (t.conf.take 9)))) :=
            ⟨(Below.heap_setCell _ _ _ _ (show w.heap.size ≠ w.heap.size + 1 by omega)).trans H1.out, heap_setCell_same w3 _ 2 _ 62 _ H2.out, HB3.out.setCell (p := ⟨w.heap.size + 1, 2, none⟩) (by show _ ≤ w.heap.size + 1; omega) _, isR_take HT.out.conf 9 (by omega)⟩
          clear hl
          go_wp2_with fail
          go_meet
          exact ⟨9, hq.out⟩
        · have hlI : ¬ (9 : Int) < (mc : Int) := by omega
          have hq : Hid (IsR w (.slice bc mc dc) (cI (t.conf.take 9))) := by
            have h9 := EM.out
            rw [cI_len] at h9
            rw [List.take_of_length_le (by omega)]
            exact HT.out.conf
          clear hl
          go_wp2_with fail
          go_meet
          exact ⟨mc, H1.out, H2.out, HB3, hq⟩
      case rest =>
        obtain ⟨oc, h1, h2, HB4, HN2⟩ := hcut
        clear b0 b1 b2 b3 fb H1 H2 HB3 EL EM l1 l2' m1 m2'
        obtain ⟨w4, hw4⟩ : ∃ x, x = wc := ⟨_, rfl⟩
        subst hw4
        obtain ⟨s1, hs1⟩ : ∃ s1 : Snp, Hid (s1 = ⟨s.idx, s.term, s.conf.take 9, s.data.take 100⟩) := ⟨_, (rfl : _ = _)⟩
        obtain ⟨t1, ht1⟩ : ∃ s1 : Snp, Hid (s1 = ⟨t.idx, t.term, t.conf.take 9, t.data.take 100⟩) := ⟨_, (rfl : _ = _)⟩
        have hi1 : s.idx = s1.idx := by rw [hs1.out]
        have hi2 : s.term = s1.term := by rw [hs1.out]
        have hi3 : t.idx = t1.idx := by rw [ht1.out]
        have hi4 : t.term = t1.term := by rw [ht1.out]
        have HV1 : Hid (SnV w ac nc cc ad nd cd s1) := by rw [hs1.out]; exact ⟨HN1.out, HD1.out⟩
        have HV2 : Hid (SnV w bc oc dc bd ne dd t1) := by rw [ht1.out]; exact ⟨HN2.out, HD2.out⟩
        have HO1 : Hid (s1.ok ∧ s1.conf.length ≤ 9 ∧ s1.data.length ≤ 100) := by
          obtain ⟨o1, o2, o3, o4, o5⟩ := HSO.out
          rw [hs1.out]
          refine ⟨⟨o1, o2, fun n hn => o3 n (List.mem_of_mem_take hn), ?_, ?_⟩, ?_, ?_⟩
          · simp only [List.length_take]; omega
          · simp only [List.length_take]; omega
          · simp only [List.length_take]; omega
          · simp only [List.length_take]; omega
        have HO2 : Hid (t1.ok ∧ t1.conf.length ≤ 9 ∧ t1.data.length ≤ 100) := by
          obtain ⟨o1, o2, o3, o4, o5⟩ := HTO.out
          rw [ht1.out]
          refine ⟨⟨o1, o2, fun n hn => o3 n (List.mem_of_mem_take hn), ?_, ?_⟩, ?_, ?_⟩
          · simp only [List.length_take]; omega
          · simp only [List.length_take]; omega
          · simp only [List.length_take]; omega
          · simp only [List.length_take]; omega
        rw [hi1, hi2] at h1
        rw [hi3, hi4] at h2
        have H1 := hide h1
        have H2 := hide h2
        clear HS HT HSO HTO HD1 HD2 HN1 HN2 hnd hne h1 h2 hs1 ht1 hi1 hi2 hi3 hi4
        have HC1 : Hid (Calls Try.prog 26 #[.agg #[.int .i64 s1.idx, .int .i64 s1.term, .slice ac nc cc, .slice ad nd cd]] w4.drew fun e w5 => ∃ ao L cap, e = .returned (.slice ao L cap) ∧ (w5.heap[w.heap.size]? = some (.cells #[.int .i64 s1.idx, .int .i64 s1.term, .slice ac nc cc, .slice ad nd cd] 62 (0, 0)) ∧ w5.heap[w.heap.size + 1]? = some (.cells #[.int .i64 t1.idx, .int .i64 t1.term, .slice bc oc dc, .slice bd ne dd] 62 (0, 0))) ∧ Hid (Below w.heap.size w w5 ∧ w5.ownsRow w4.heap.size 5 1 (.slice ao L cap) (encS' s1).length (cells8 (encS' s1)))) := by
          refine (snap_enc s1 (HV1.out.below HB4.out.drew) HO1.out.1 (by have := HO1.out.2.1; omega) (by have := HO1.out.2.2; omega)).mono ?_
          rintro e w5 ⟨ao, L, cap, rfl, hp⟩
          exact ⟨ao, L, cap, rfl, ⟨(hp.out.2.block _ (lt_of_block H1.out)).trans H1.out, (hp.out.2.block _ (lt_of_block H2.out)).trans H2.out⟩, HB4.out.drew.trans (hp.out.2.mono HB4.out.drew.size), hp.out.1⟩
        have HC2 : Hid (∀ w5 : World, Below w.heap.size w w5 → w5.heap[w.heap.size]? = some (.cells #[.int .i64 s1.idx, .int .i64 s1.term, .slice ac nc cc, .slice ad nd cd] 62 (0, 0)) → w5.heap[w.heap.size + 1]? = some (.cells #[.int .i64 t1.idx, .int .i64 t1.term, .slice bc oc dc, .slice bd ne dd] 62 (0, 0)) → Calls Try.prog 26 #[.agg #[.int .i64 t1.idx, .int .i64 t1.term, .slice bc oc dc, .slice bd ne dd]] w5 fun e w6 => ∃ ao L cap, e = .returned (.slice ao L cap) ∧ (w6.heap[w.heap.size]? = some (.cells #[.int .i64 s1.idx, .int .i64 s1.term, .slice ac nc cc, .slice ad nd cd] 62 (0, 0)) ∧ w6.heap[w.heap.size + 1]? = some (.cells #[.int .i64 t1.idx, .int .i64 t1.term, .slice bc oc dc, .slice bd ne dd] 62 (0, 0))) ∧ Hid (Below w5.heap.size w5 w6 ∧ w6.ownsRow w5.heap.size 5 1 (.slice ao L cap) (encS' t1).length (cells8 (encS' t1)))) := fun w5 hb g1 g2 => by
          refine (snap_enc t1 (HV2.out.below hb) HO2.out.1 (by have := HO2.out.2.1; omega) (by have := HO2.out.2.2; omega)).mono ?_
          rintro e w6 ⟨ao, L, cap, rfl, hp⟩
          exact ⟨ao, L, cap, rfl, ⟨(hp.out.2.block _ (lt_of_block g1)).trans g1, (hp.out.2.block _ (lt_of_block g2)).trans g2⟩, hp.out.2, hp.out.1⟩
        go_upto_region 9 with fail
        go_cut [10, 11] from 43 to 47 (fun va vb wc => ∃ aa la ca ab lb cb, va = .slice aa la ca ∧ vb = .slice ab lb cb ∧ wc.heap[w.heap.size]? = some (.cells #[.int .i64 s1.idx, .int .i64 s1.term, .slice ac nc cc, .slice ad nd cd] 62 (0, 0)) ∧ wc.heap[w.heap.size + 1]? = some (.cells #[.int .i64 t1.idx, .int .i64 t1.term, .slice bc oc dc, .slice bd ne dd] 62 (0, 0)) ∧ Hid (Below w.heap.size w wc ∧ Sl wc (.slice aa la ca) (encS' s1) ∧ Sl wc (.slice ab lb cb) (encS' t1)))
        case first =>
          have d0 : SS w4 w s1 t1 ac nc cc ad nd cd bc oc dc bd ne dd := ss_of H1.out H2.out
          have d1 : SS w4.drew w s1 t1 ac nc cc ad nd cd bc oc dc bd ne dd := ss_of (W := w4.drew) H1.out H2.out
          refine wp_region_noPanic ?_
          go_region_held (fun u => SS u w s1 t1 ac nc cc ad nd cd bc oc dc bd ne dd) (first | with_reducible exact d0 | with_reducible exact d1 | with_reducible exact d2 | with_reducible exact d3)
            (first
              | (go_at_call 26; first
                | (have mm := HC3; (with_reducible refine Calls.mono HC3.out ?_); rintro e w6 ⟨ab, lb, cb, rfl, g6, HP6⟩; have d3 : SS w6 w s1 t1 ac nc cc ad nd cd bc oc dc bd ne dd := ss_of g6.1 g6.2)
                | ((with_reducible refine Calls.mono HC1.out ?_); rintro e w5 ⟨aa, la, ca, rfl, g5, HP5⟩; have d2 : SS w5 w s1 t1 ac nc cc ad nd cd bc oc dc bd ne dd := ss_of g5.1 g5.2; have HC3 := hide (HC2.out w5 HP5.out.1 g5.1 g5.2))))
          all_goals refine NoPanic.normal ?_
          all_goals go_wp2_with fail
          all_goals go_meet
          all_goals exact ⟨aa, la, ca, ab, lb, cb, rfl, rfl, g6.1, g6.2, HP5.out.1.trans (HP6.out.1.mono HP5.out.1.size), (Sl.of_own HP5.out.2).below HP6.out.1, Sl.of_own HP6.out.2⟩
        case rest =>
          obtain ⟨aa, la, ca, ab, lb, cb, rfl, rfl, h1, h2, HQ⟩ := hcut
          clear HC1 HC2 H1 H2 HB4
          obtain ⟨w5, hw5⟩ : ∃ x, x = wc := ⟨_, rfl⟩
          subst hw5
          have H1 := hide h1
          have H2 := hide h2
          clear h1 h2
          have HL1 : Hid ((encS' s1).length ≤ 900000) := by
            have h := encS_len s1
            have h' := HO1.out
            show _ ≤ _
            omega
          have HR := hide (readSnap_yes HQ.out.2.1 HL1.out (rSnp_enc s1 HO1.out.1))
          go_wp2_with fail
          refine Calls.mono HR.out ?_
          rintro e w6 ⟨kc, klc, kcc, kd, kld, kcd, rfl, HP6⟩
          clear HR
          obtain ⟨w7, hw7⟩ : ∃ x, Hid (x = w6.alloc (.cells #[.int .i64 s1.idx, .int .i64 s1.term, .slice kc klc kcc, .slice kd kld kcd] 62)) := ⟨_, (rfl : _ = _)⟩
          have HB67 : Hid (Below w5.heap.size w5 w7) := by rw [hw7.out]; exact HP6.out.2.alloc HP6.out.2.size _
          have HK : Hid (w7.heap[w6.heap.size]? = some (.cells #[.int .i64 s1.idx, .int .i64 s1.term, .slice kc klc kcc, .slice kd kld kcd] 62 (0, 0))) := by rw [hw7.out]; exact heap_alloc_new _ _
          have HKV : Hid (SnV w7 kc klc kcc kd kld kcd s1) := by rw [hw7.out]; exact HP6.out.1.below ((Below.refl _ _).alloc (Nat.le_refl _) _)
          have HB7 := hide (HQ.out.1.trans (HB67.out.mono HQ.out.1.size))
          have HA7 := hide (HQ.out.2.1.below HB67.out)
          have HBb7 := hide (HQ.out.2.2.below HB67.out)
          have G1 := hide ((HB67.out.block _ (lt_of_block H1.out)).trans H1.out)
          have G2 := hide ((HB67.out.block _ (lt_of_block H2.out)).trans H2.out)
          clear H1 H2 HP6 HB67 HQ
          go_upto_region 11 with fail
          rw [← hw7.out]
          obtain ⟨P, hP⟩ : ∃ P, Hid (w6.heap.size = P) := ⟨_, (rfl : _ = _)⟩
          rw [hP.out] at HK ⊢
          obtain ⟨r, hr⟩ : ∃ r, Hid (eqS s1 t1 = r) := ⟨_, (rfl : _ = _)⟩
          obtain ⟨Xa, hXa⟩ : ∃ X : ByteArray, Hid (⟨(encS' s1).toArray⟩ = X) := ⟨_, (rfl : _ = _)⟩
          obtain ⟨Xb, hXb⟩ : ∃ X : ByteArray, Hid (⟨(encS' t1).toArray⟩ = X) := ⟨_, (rfl : _ = _)⟩
          have hbeq : (Xa.toList == Xb.toList) = r := by rw [← hXa.out, ← hXb.out, beq_tx, encS_inj s1 t1 HO1.out.1 HO2.out.1, hr.out]
          have HBEQ := hide hbeq
          have HSS : Hid (∀ u, Below w7.heap.size w7 u → S11 P w.heap.size (w.heap.size + 1) (.int .i64 s1.idx) (.int .i64 s1.term) (.slice kc klc kcc) (.slice kd kld kcd) (.int .i64 s1.idx) (.int .i64 s1.term) (.slice ac nc cc) (.slice ad nd cd) (.int .i64 t1.idx) (.int .i64 t1.term) (.slice bc oc dc) (.slice bd ne dd) (.slice aa la ca) (.slice ab lb cb) Xa Xb u) := fun u hu => by
            obtain ⟨x0, x1, x2, x3⟩ := cells_Snp ((hu.block _ (lt_of_block HK.out)).trans HK.out)
            obtain ⟨y0, y1, y2, y3⟩ := cells_Snp ((hu.block _ (lt_of_block G1.out)).trans G1.out)
            obtain ⟨z0, z1, z2, z3⟩ := cells_Snp ((hu.block _ (lt_of_block G2.out)).trans G2.out)
            exact ⟨x0, x1, x2, x3, y0, y1, y2, y3, z0, z1, z2, z3, conv_sl_any (HA7.out.below hu) hXa.out, conv_sl_any (HBb7.out.below hu) hXb.out⟩
          have HE1 : Hid (Calls Try.prog 28 #[.agg #[.int .i64 s1.idx, .int .i64 s1.term, .slice kc klc kcc, .slice kd kld kcd], .agg #[.int .i64 s1.idx, .int .i64 s1.term, .slice ac nc cc, .slice ad nd cd]] w7.drew fun e w8 => e = .returned (.bool true) ∧ Hid (Below w7.heap.size w7 w8)) := by
            refine (eqSnap_any s1 s1 (HKV.out.below (Below.refl _ _).drew) (HV1.out.below HB7.out.drew)).mono ?_
            rintro e w8 ⟨rfl, hp⟩
            exact ⟨by rw [(eqS_iff s1 s1).2 rfl], (Below.refl _ _).drew.trans hp.out⟩
          have HE2 : Hid (∀ w8 : World, Below w7.heap.size w7 w8 → Calls Try.prog 28 #[.agg #[.int .i64 s1.idx, .int .i64 s1.term, .slice ac nc cc, .slice ad nd cd], .agg #[.int .i64 t1.idx, .int .i64 t1.term, .slice bc oc dc, .slice bd ne dd]] w8 fun e w9 => e = .returned (.bool r) ∧ Hid (Below w7.heap.size w7 w9)) := fun w8 h8 => by
            have hb8 := HB7.out.trans (h8.mono HB7.out.size)
            have h := eqSnap_any s1 t1 (HV1.out.below hb8) (HV2.out.below hb8)
            rw [hr.out] at h
            refine h.mono ?_
            rintro e w9 ⟨rfl, hp⟩
            exact ⟨rfl, h8.trans (hp.out.mono h8.size)⟩
          clear hbeq
          go_cut [70] from 52 to 71 (fun v wc => v = .bool false ∧ Hid (Below w.heap.size w wc ∧ Sl wc (.slice aa la ca) (encS' s1)))
          case first =>
            have d0 := HSS.out w7 (Below.refl _ _)
            have d1 := HSS.out w7.drew (Below.refl _ _).drew
            cases r
            all_goals
              have hbq := HBEQ.out
              refine wp_region_noPanic ?_
              go_region_held (fun u => S11 P w.heap.size (w.heap.size + 1) (.int .i64 s1.idx) (.int .i64 s1.term) (.slice kc klc kcc) (.slice kd kld kcd) (.int .i64 s1.idx) (.int .i64 s1.term) (.slice ac nc cc) (.slice ad nd cd) (.int .i64 t1.idx) (.int .i64 t1.term) (.slice bc oc dc) (.slice bd ne dd) (.slice aa la ca) (.slice ab lb cb) Xa Xb u) (first | with_reducible exact d0 | with_reducible exact d1 | with_reducible exact d2 | with_reducible exact d3)
                (first
                  | (go_at_call 28; first
                    | (have mm := HE3; (with_reducible refine Calls.mono HE3.out ?_); rintro e w9 ⟨rfl, HP9⟩; have d3 := HSS.out w9 HP9.out)
                    | ((with_reducible refine Calls.mono HE1.out ?_); rintro e w8 ⟨rfl, HP8⟩; have d2 := HSS.out w8 HP8.out; have HE3 := hide (HE2.out w8 HP8.out))))
              refine NoPanic.normal ?_
              go_wp2_with fail
              go_meet
              exact ⟨rfl, HB7.out.trans (HP9.out.mono HB7.out.size), HA7.out.below HP9.out⟩
          case rest =>
            obtain ⟨rfl, HQ⟩ := hcut
            clear HBEQ HSS HE1 HE2 hXa hXb hr HK HKV HB7 HA7 HBb7 G1 G2 hP hw7 HV1 HV2 HO2
            obtain ⟨w8, hw8⟩ : ∃ x, x = wc := ⟨_, rfl⟩
            subst hw8
            obtain ⟨i, hi, hz0, hz1, hz2⟩ := info_parts Try.info5
            obtain ⟨bs, hbs⟩ : ∃ bs, Hid (encS' s1 = bs) := ⟨_, (rfl : _ = _)⟩
            have hbl : 0 < bs.length ∧ bs.length ≤ 900000 := by rw [← hbs.out]; exact ⟨encS_pos s1, HL1.out⟩
            rw [hbs.out] at HQ
            go_upto_region 13 with fail
            go_upto_region 14 with (at_builtin; refine wpList_append_sl _ rfl _ (.tmp 71) 24 rfl w8.heap.size i Try.underlying24 hi hz0 hz1 hz2 (.slice none 0 0) (.slice aa la ca) [] bs rfl (World.ownsRow_nil _ _ _ _) rfl HQ.out.2 (by simp; omega) (Nat.le_refl _) ?_)
            intro yv w9 hown hgrow hat9
            have hb9 : Below w8.heap.size w8 w9 := ⟨hgrow.os, hgrow.tape, hgrow.output, hgrow.size, fun k hk => hgrow.block k hk (by simp [Value.ownBlock])⟩
            have HB9 := hide (HQ.out.1.trans (hb9.mono HQ.out.1.size))
            have HO9 := hide (own_low hown HQ.out.1.size)
            obtain ⟨g, cap, rfl, -, hcp, hgl⟩ : ∃ g cap, yv = .slice (some ⟨g, 0, none⟩) bs.length cap ∧ bs.length ≤ cap ∧ cap ≤ maxLen ∧ g < w9.heap.size := by
              rcases Kp.own_shape hown with ⟨_, h0⟩ | ⟨g, cap, h, h2, h3, h4⟩
              · omega
              · exact ⟨g, cap, h, h2, h3, h4⟩
            have hgw := own_ge HO9.out g rfl
            clear hown hgrow hat9 hb9
            have HGW := hide hgw
            obtain ⟨N, hN⟩ : ∃ N, Hid (bs.length = N) := ⟨_, (rfl : _ = _)⟩
            rw [hN.out] at hbl HO9 ⊢
            have hN0 : (0 : Int) < (N : Int) := by omega
            have hN1 : (N : Int) ≤ 900000 := by omega
            go_upto_region 14 with fail
            go_cut [79] from 73 to 80 (fun v wc => v = .bool (decide (0 ≤ at_)) ∧ Hid (wc.ownsRow w.heap.size 5 1 (.slice (some ⟨g, 0, none⟩) N cap) N (cells8 bs) ∧ Below w.heap.size w wc))
            case first =>
              by_cases ha : 0 ≤ at_
              · have e := hide (decide_eq_true ha)
                go_wp2_with fail
                go_meet
                refine ⟨?_, HO9.out, HB9.out⟩
                first | rw [e.out] | exact ha | (simp; omega)
              · have ha' : ¬ (0 : Int) ≤ at_ := ha
                have e := hide (decide_eq_false ha)
                go_wp2_with fail
                go_meet
                refine ⟨?_, HO9.out, HB9.out⟩
                first | rw [e.out] | exact ha | (simp; omega)
            case rest =>
              obtain ⟨rfl, HO10⟩ := hcut
              clear HO9 HB9
              obtain ⟨w10, hw10⟩ : ∃ x, x = wc := ⟨_, rfl⟩
              subst hw10
              go_upto_if 79 with fail
              go_cut [] from 79 to 90 (fun wc => ∃ ys : List UInt8, ys.length = N ∧ Hid (wc.ownsRow w.heap.size 5 1 (.slice (some ⟨g, 0, none⟩) N cap) ys.length (cells8 ys) ∧ Below w.heap.size w wc))
              case first =>
                by_cases ha : 0 ≤ at_
                · obtain ⟨k, hk, hkN⟩ : ∃ k : Nat, at_.tmod N = (k : Int) ∧ k < N := by
                    rw [Int.tmod_eq_emod_of_nonneg ha]
                    have h1 := Int.emod_nonneg at_ (show (N : Int) ≠ 0 by omega)
                    have h2 := Int.emod_lt_of_pos at_ hN0
                    exact ⟨(at_ % N).toNat, by omega, by omega⟩
                  have hc := HO10.out.1.cellAt k (by omega)
                  rw [cells8_at bs k (by rw [hN.out]; exact hkN)] at hc
                  have hf := HO10.out.1.frozenAt k
                  have hkI : (k : Int) < (N : Int) := by omega
                  have hcI : (N : Int) ≤ 9223372036854775807 := by omega
                  have hk0 : 0 ≤ at_.tmod N := by omega
                  obtain ⟨y, hy⟩ := xor8 bs k x hx
                  have HY := hide hy
                  clear hy
                  go_wp2_with fail
                  go_meet
                  rw [HY.out]
                  have h9 := HO10.out.1
                  rw [← hN.out] at h9
                  refine ⟨bs.set k y, by rw [List.length_set]; exact hN.out, ?_, HO10.out.2.setCell (p := ⟨g, k, none⟩) HGW.out _⟩
                  have h10 := own_put h9 (by rw [hN.out]; exact hkN) y
                  rw [hN.out] at h10
                  exact h10
                · have ha' : ¬ (0 : Int) ≤ at_ := ha
                  go_wp2_with fail
                  go_meet
                  exact ⟨bs, hN.out, by rw [hN.out]; exact HO10.out.1, HO10.out.2⟩
              case rest =>
                obtain ⟨ys, hys, HO11⟩ := hcut
                have HYS := hide hys
                clear HO10 hys
                obtain ⟨w11, hw11⟩ : ∃ x, x = wc := ⟨_, rfl⟩
                subst hw11
                have HYL : Hid (ys.length ≤ 900000) := by show _ ≤ _; rw [HYS.out]; omega
                have HSY := hide (Sl.of_own HO11.out.1)
                have HB11 := hide HO11.out.2
                clear HO11 hbl
                cases hok : okB (rSnp (some ys)).1.2 (rSnp (some ys)).2
                · have HR := hide (readSnap_no HSY.out HYL.out hok)
                  clear hok
                  go_wp2_with fail
                  refine Calls.mono HR.out ?_
                  rintro e w12 ⟨rfl, HB12⟩
                  have HBe := hide ((HB11.out.trans (HB12.out.mono HB11.out.size)))
                  clear HR
                  go_wp2_with fail
                  go_ret
                  exact ⟨rfl, HBe.out.alloc HBe.out.size _⟩
                · have HR := hide (readSnap_ok HSY.out HYL.out hok)
                  have HZO := hide (rSnp_ok ys HYL.out hok)
                  have HZB := hide (rSnp_back ys hok)
                  clear hok
                  obtain ⟨z, hz⟩ : ∃ z, Hid ((rSnp (some ys)).1.1 = z) := ⟨_, (rfl : _ = _)⟩
                  rw [hz.out] at HR HZO HZB
                  go_wp2_with fail
                  refine Calls.mono HR.out ?_
                  rintro e w12 ⟨zc, zlc, zcc, zd, zld, zcd, rfl, HP12⟩
                  clear HR
                  obtain ⟨w13, hw13⟩ : ∃ x, Hid (x = w12.alloc (.cells #[.int .i64 z.idx, .int .i64 z.term, .slice zc zlc zcc, .slice zd zld zcd] 62)) := ⟨_, (rfl : _ = _)⟩
                  have HB13 : Hid (Below w11.heap.size w11 w13) := by rw [hw13.out]; exact HP12.out.2.alloc HP12.out.2.size _
                  have HK13 : Hid (w13.heap[w12.heap.size]? = some (.cells #[.int .i64 z.idx, .int .i64 z.term, .slice zc zlc zcc, .slice zd zld zcd] 62 (0, 0))) := by rw [hw13.out]; exact heap_alloc_new _ _
                  have HV13 : Hid (SnV w13 zc zlc zcc zd zld zcd z) := by rw [hw13.out]; exact HP12.out.1.below ((Below.refl _ _).alloc (Nat.le_refl _) _)
                  obtain ⟨Y, hY⟩ : ∃ X : ByteArray, Hid (⟨ys.toArray⟩ = X) := ⟨_, (rfl : _ = _)⟩
                  have HCY : Hid (∀ u, Below w13.heap.size w13 u → (convert 24 9 (.slice (some ⟨g, 0, none⟩) N cap)).run Try.prog u = .ok (.string Y) u) := fun u hu => conv_sl_any ((HSY.out.below HB13.out).below hu) hY.out
                  have HSN : Hid (Calls Try.prog 26 #[.agg #[.int .i64 z.idx, .int .i64 z.term, .slice zc zlc zcc, .slice zd zld zcd]] w13.drew fun e w14 => ∃ ao L c, e = .returned (.slice ao L c) ∧ Hid ((convert 24 9 (.slice ao L c)).run Try.prog w14 = .ok (.string Y) w14 ∧ Below w13.heap.size w13 w14)) := by
                    refine (snap_enc z (HV13.out.below (Below.refl _ _).drew) HZO.out.1 (by have := HZO.out.2.1; omega) (by have := HZO.out.2.2; omega)).mono ?_
                    rintro e w14 ⟨ao, L, c, rfl, hp⟩
                    have hown := hp.out.1
                    rw [HZB.out] at hown
                    exact ⟨ao, L, c, rfl, conv_sl_any (Sl.of_own hown) hY.out, (Below.refl _ _).drew.trans hp.out.2⟩
                  have HBe := hide (HB11.out.trans (HB13.out.mono HB11.out.size))
                  have hyy : (Y.toList == Y.toList) = true := by simp
                  clear HP12 HV13 HZO HZB HB13 HSY
                  go_upto_region 19 with fail
                  rw [← hw13.out]
                  obtain ⟨Q, hQ⟩ : ∃ P, Hid (w12.heap.size = P) := ⟨_, (rfl : _ = _)⟩
                  rw [hQ.out] at HK13 ⊢
                  have HS13 : Hid (∀ u, Below w13.heap.size w13 u → S4 Q (.int .i64 z.idx) (.int .i64 z.term) (.slice zc zlc zcc) (.slice zd zld zcd) (.slice (some ⟨g, 0, none⟩) N cap) Y u) := fun u hu => by
                    obtain ⟨x0, x1, x2, x3⟩ := cells_Snp ((hu.block _ (lt_of_block HK13.out)).trans HK13.out)
                    exact ⟨x0, x1, x2, x3, HCY.out u hu⟩
                  have d0 := HS13.out w13 (Below.refl _ _)
                  have d1 := HS13.out w13.drew (Below.refl _ _).drew
                  clear HCY HK13
                  refine wp_region_noPanic ?_
                  go_region_held (fun u => S4 Q (.int .i64 z.idx) (.int .i64 z.term) (.slice zc zlc zcc) (.slice zd zld zcd) (.slice (some ⟨g, 0, none⟩) N cap) Y u) (first | with_reducible exact d0 | with_reducible exact d1 | with_reducible exact d2)
                    (first
                      | (go_at_call 26; (with_reducible refine Calls.mono HSN.out ?_); rintro e w14 ⟨ao, L, c, rfl, HP14⟩; have hcv := HP14.out.1; have d2 := HS13.out w14 HP14.out.2))
                  all_goals refine NoPanic.normal ?_
                  all_goals go_wp2_with fail
                  all_goals go_ret
                  all_goals exact ⟨rfl, HBe.out.trans (HP14.out.2.mono HBe.out.size)⟩

end Go.Proofs.Ytgknpbgepgmmmaa.Cm
namespace Go.Proofs.Ytgknpbgepgmmmaa.Cm
open Go.RowKit Bn Kp

theorem encC_four (k c q : Int) (t : List UInt8) : (((enc k ++ enc c) ++ enc q) ++ (enc t.length ++ t)) = encC k c q t := by simp [encC, encT]
theorem encC_len (k c q : Int) (t : List UInt8) : (encC k c q t).length ≤ 40 + t.length := by
  have h1 := enc_le k
  have h2 := enc_le c
  have h3 := enc_le q
  have h4 := enc_le t.length
  simp only [encC, encT, List.length_append]
  omega
theorem encC_pos (k c q : Int) (t : List UInt8) : 0 < (encC k c q t).length := by
  have h1 := enc_pos k
  simp only [encC, List.length_append]
  omega
theorem blk_grown {w w' : World} {B D : Nat} {o : Obj} (hg : w.grownBy w' (some B)) (h : w.heap[D]? = some o) (hne : D < B) : w'.heap[D]? = some o := (hg.block D (lt_of_block h) (fun e => by injection e with e; omega)).trans h
theorem neq_selfB (s : ByteArray) : (s.toList != s.toList) = false := by simp

set_option maxRecDepth 8000 in
set_option maxHeartbeats 16000000 in
theorem bytes_law {w : World} (k c q : Int) (t : List UInt8) (hk : I64 k) (hc : I64 c) (hq : I64 q) (ht : t.length ≤ 9223372036854775807) {ar : Option Addr} {lr cr : Nat} {rs : List UInt8} (hr : Sl w (.slice ar lr cr) rs) (at_ : Int) (x : Int) (hx : 0 ≤ x ∧ x ≤ 255) :
    Calls Try.prog 3 #[.agg #[.int .i64 k, .int .i64 c, .int .i64 q, tx t], .int .i64 at_, .int .u8 x, .slice ar lr cr] w fun e w' => e = .returned (.bool true) ∧ Below w.heap.size w w' := by
  obtain ⟨W0, hW⟩ : ∃ W, Hid (W = w.alloc (.cells #[.int .i64 k, .int .i64 c, .int .i64 q, tx t] 23)) := ⟨_, (rfl : _ = _)⟩
  have HB0 : Hid (Below w.heap.size w W0) := by rw [hW.out]; exact (Below.refl _ w).alloc (Nat.le_refl _) _
  have HX0 : Hid (W0.heap[w.heap.size]? = some (.cells #[.int .i64 k, .int .i64 c, .int .i64 q, tx t] 23 (0, 0))) := by rw [hW.out]; exact heap_alloc_new _ _
  have HG := hide (begun_any W0)
  have HCC := hide (fun W => cutC k c q t W ht)
  obtain ⟨t1, ht1⟩ : ∃ s, Hid (t.take 200 = s) := ⟨_, (rfl : _ = _)⟩
  have HL1 : Hid (t1.length ≤ 200) := by show _ ≤ _; rw [← ht1.out]; simp only [List.length_take]; omega
  rw [ht1.out] at HCC
  obtain ⟨T0, hT0⟩ : ∃ T : ByteArray, Hid (⟨t.toArray⟩ = T) := ⟨_, (rfl : _ = _)⟩
  obtain ⟨T1, hT1⟩ : ∃ T : ByteArray, Hid (⟨t1.toArray⟩ = T) := ⟨_, (rfl : _ = _)⟩
  have eT0 : tx t = .string T0 := by rw [tx, hT0.out]
  have eT1 : tx t1 = .string T1 := by rw [tx, hT1.out]
  rw [eT0] at hW HX0 HCC ⊢
  rw [eT1] at HCC
  have HK := hide hk
  have HC := hide hc
  have HQ := hide hq
  have HR := hide hr
  have ET1 := hide eT1
  clear hk hc hq hr ht eT0 eT1
  go_enter Try.func3, Try.ntmps3
  go_upto_region 1 with fail
  rw [← hW.out]
  go_wp2_with fail
  refine Calls.mono HG.out ?_
  rintro e w1 ⟨rfl, HB1⟩
  have HBw1 := hide (HB0.out.trans (HB1.out.mono HB0.out.size))
  have hx1 := (HB1.out.block _ (lt_of_block HX0.out)).trans HX0.out
  obtain ⟨a0, a1, a2, a3⟩ := cells_Cmd hx1
  have HX1 := hide hx1
  clear hx1 HG HB1 HX0 HB0
  go_wp2_with fail
  refine Calls.mono (HCC.out w1) ?_
  rintro e w2 ⟨rfl, HB2⟩
  have HBw2 := hide (HBw1.out.trans (HB2.out.mono HBw1.out.size))
  have hx2 := (HB2.out.block _ (lt_of_block HX1.out)).trans HX1.out
  have fa := fun i => frozen_of_row w2 _ i _ _ hx2
  have HX2 := hide hx2
  clear a0 a1 a2 a3 hx2 HX1 HB2 HBw1 HCC
  obtain ⟨b0, b1, b2, b3⟩ := cells_Cmd HX2.out
  go_upto_region 5 with fail
  obtain ⟨S1, S2⟩ := set_Cmd (b := w.heap.size) (.int .i64 k) (.int .i64 c) (.int .i64 q) (.string T1) HX2.out (Nat.le_refl _)
  generalize ((((w2.setCell ⟨w.heap.size, 0, none⟩ (.int .i64 k)).setCell ⟨w.heap.size, 1, none⟩ (.int .i64 c)).setCell ⟨w.heap.size, 2, none⟩ (.int .i64 q)).setCell ⟨w.heap.size, 3, none⟩ (.string T1)) = w3 at S1 S2 ⊢
  have HX3 := hide S1
  have HB3 := hide (HBw2.out.trans S2)
  clear S1 S2 b0 b1 b2 b3 fa HX2 HBw2 hW
  obtain ⟨a0, a1, a2, a3⟩ := cells_Cmd HX3.out
  have hsz3 : w.heap.size < w3.heap.size := lt_of_block HX3.out
  cases hm : mayB k c q t1.length
  · have hm' : mayB k c q T1.size = false := by rw [← hT1.out, tx_size]; exact hm
    have HE := hide (encode_no k c q T1 w3 hm')
    clear hm
    go_wp2_with fail
    refine Calls.mono HE.out ?_
    rintro e w4 ⟨rfl, HB4⟩
    have HX4 := hide ((HB4.out.block _ hsz3).trans HX3.out)
    obtain ⟨b0, b1, b2, b3⟩ := cells_Cmd HX4.out
    have HM := hide (mayRef_any k c q T1 w4)
    rw [hm'] at HM
    have HB4' := hide (HB3.out.trans (HB4.out.mono HB3.out.size))
    clear HE a0 a1 a2 a3 hm'
    go_wp2_with fail
    refine Calls.mono HM.out ?_
    rintro e w5 ⟨rfl, HB5⟩
    clear HM
    go_wp2_with fail
    go_ret
    exact ⟨rfl, HB4'.out.trans (HB5.out.mono HB4'.out.size)⟩
  · have hm' : mayB k c q T1.size = true := by rw [← hT1.out, tx_size]; exact hm
    have HE := hide (encode_yes k c q t1 w3 hm)
    rw [ET1.out] at HE
    clear hm
    go_wp2_with fail
    refine Calls.mono HE.out ?_
    rintro e w4 ⟨aa, la, ca, rfl, HP4⟩
    have HX4 := hide ((HP4.out.2.block _ hsz3).trans HX3.out)
    obtain ⟨b0, b1, b2, b3⟩ := cells_Cmd HX4.out
    have HM := hide (mayRef_any k c q T1 w4)
    rw [hm'] at HM
    have HB4' := hide (HB3.out.trans (HP4.out.2.mono HB3.out.size))
    have HS4 := hide (Sl.of_own HP4.out.1)
    clear HE a0 a1 a2 a3 hm' HX3 HB3 HP4
    go_wp2_with fail
    refine Calls.mono HM.out ?_
    rintro e w5 ⟨rfl, HB5⟩
    have HX5 := hide ((HB5.out.block _ (lt_of_block HX4.out)).trans HX4.out)
    have HB5' := hide (HB4'.out.trans (HB5.out.mono HB4'.out.size))
    have HS5 := hide (HS4.out.below HB5.out)
    clear HM b0 b1 b2 b3 HX4 HB4' HS4 HB5
    go_upto_region 9 with fail
    go_cut [12] from 38 to 56 (fun v wc => ∃ ab lb cb, v = .slice ab lb cb ∧ Hid (Below w5.heap.size w5 wc ∧ wc.ownsRow w5.heap.size 5 1 (.slice ab lb cb) (encC k c q t1).length (cells8 (encC k c q t1))))
    case first =>
      refine wp_region_noPanic ?_
      refine cmd_r9 hT1.out HK.out HC.out HQ.out (by have := HL1.out; omega) (fun u hu => cells_Cmd ((hu.block _ (lt_of_block HX5.out)).trans HX5.out)) ?_
      intro y38 y39 y40 y41 y42 y43 y44 y45 y46 y47 y48 y49 y50 y51 y52 y53 y54 y55 u4 wc hb9 hO9
      rw [encC_four] at hO9
      obtain ⟨ab, lb, cb, rfl⟩ := Kp.own_slice hO9
      have HH := hide (And.intro hb9 hO9)
      clear hb9 hO9
      go_wp2_with fail
      go_meet
      exact ⟨ab, lb, cb, rfl, HH.out⟩
    case rest =>
      obtain ⟨ab, lb, cb, rfl, HQ6⟩ := hcut
      obtain ⟨w6, hw6⟩ : ∃ x, x = wc := ⟨_, rfl⟩
      subst hw6
      obtain ⟨bs, hbs⟩ : ∃ bs, Hid (encC k c q t1 = bs) := ⟨_, (rfl : _ = _)⟩
      have hbl : 0 < bs.length ∧ bs.length ≤ 240 := by rw [← hbs.out]; exact ⟨encC_pos _ _ _ _, by have := encC_len k c q t1; have := HL1.out; omega⟩
      rw [hbs.out] at HQ6 HS5
      have HB6 := hide (HB5'.out.trans (HQ6.out.1.mono HB5'.out.size))
      have HS6 := hide (HS5.out.below HQ6.out.1)
      obtain ⟨B1, hB1⟩ : ∃ X : ByteArray, Hid (⟨bs.toArray⟩ = X) := ⟨_, (rfl : _ = _)⟩
      have cb1 := conv_sl_any HS6.out hB1.out
      have cb2 := conv_sl_any (Sl.of_own HQ6.out.2) hB1.out
      have hne := neq_selfB B1
      clear HQ6 HS5 HX5 HB5' HK HC HQ ET1 hT1 ht1 hT0 HL1 hsz3
      go_upto_region 12 with fail
      clear cb1 cb2 hne hB1
      obtain ⟨i, hi, hz0, hz1, hz2⟩ := info_parts Try.info5
      go_wp2_with (at_builtin; refine wpList_append_sl _ rfl _ (.tmp 65) 24 rfl w6.heap.size i Try.underlying24 hi hz0 hz1 hz2 (.slice none 0 0) (.slice aa la ca) [] bs rfl (World.ownsRow_nil _ _ _ _) rfl HS6.out (by simp; omega) (Nat.le_refl _) ?_)
      intro y1 w7 hO7 hg7 ha7
      have hb7 : Below w6.heap.size w6 w7 := ⟨hg7.os, hg7.tape, hg7.output, hg7.size, fun k hk => hg7.block k hk (by simp [Value.ownBlock])⟩
      have HB7 := hide (HB6.out.trans (hb7.mono HB6.out.size))
      have HO7 : Hid (w7.ownsRow w6.heap.size 5 1 y1 bs.length (cells8 bs)) := hO7
      have hs67 := hb7.size
      have HBB7 := hide hb7
      have HR7 := hide (HR.out.below HB7.out)
      clear hO7 hg7 ha7 hb7
      obtain ⟨p1, p2⟩ := sl_caps HR7.out
      have HF := hide (first_any HR7.out (by have h1 := HR7.out.len; have h3 : cr ≤ 9223372036854775807 := p2; omega))
      obtain ⟨r5, hr5⟩ : ∃ r, Hid (rs.take 5 = r) := ⟨_, (rfl : _ = _)⟩
      have hrl : r5.length ≤ 5 := by rw [← hr5.out]; simp only [List.length_take]; omega
      rw [hr5.out] at HF
      go_wp2_with fail
      refine Calls.mono HF.out ?_
      rintro e w8 ⟨v5, rfl, hw8, HS8⟩
      have hw8' := hw8.symm
      subst hw8'
      clear hw8 HF
      go_upto_region 13 with (at_builtin; refine wpList_append_sl _ rfl (.tmp 66) (.tmp 68) 24 rfl w6.heap.size i Try.underlying24 hi hz0 hz1 hz2 _ _ bs r5 rfl HO7.out rfl HS8.out (by omega) hs67 ?_)
      intro y2 w9 hO9 hg9 ha9
      have hb9 : Below w6.heap.size w6 w9 := HBB7.out.grown hg9 hs67 (fun k hk => (HO7.out.lt k hk).1)
      have HB9 := hide (HB6.out.trans (hb9.mono HB6.out.size))
      obtain ⟨zs, hzs⟩ : ∃ zs, Hid (bs ++ r5 = zs) := ⟨_, (rfl : _ = _)⟩
      have hzl : 0 < zs.length ∧ zs.length ≤ 245 := by rw [← hzs.out, List.length_append]; omega
      have hlz : bs.length + r5.length = zs.length := by rw [← hzs.out, List.length_append]
      rw [hzs.out] at hO9
      try rw [hlz] at hO9
      have HO9 := hide (own_low hO9 HB6.out.size)
      obtain ⟨g, cap, rfl, -, hcp, hgl⟩ : ∃ g cap, y2 = .slice (some ⟨g, 0, none⟩) zs.length cap ∧ zs.length ≤ cap ∧ cap ≤ maxLen ∧ g < w9.heap.size := by
        rcases Kp.own_shape hO9 with ⟨_, h0⟩ | ⟨g, cap, h, h2, h3, h4⟩
        · omega
        · exact ⟨g, cap, h, h2, h3, h4⟩
      have hgw := own_ge HO9.out g rfl
      have HGW := hide hgw
      obtain ⟨N, hN⟩ : ∃ N, Hid (zs.length = N) := ⟨_, (rfl : _ = _)⟩
      rw [hN.out] at hzl HO9 ⊢
      have hN0 : (0 : Int) < (N : Int) := by omega
      have hN1 : (N : Int) ≤ 245 := by omega
      clear hO9 hg9 ha9 hb9 hgw hbl HBB7 HB7 HO7 HR7 HS8 HS6 HB6 hs67 p1 p2 hrl
      go_upto_if 71 with fail
      go_cut [] from 71 to 82 (fun wc => ∃ ys : List UInt8, ys.length = N ∧ Hid (wc.ownsRow w.heap.size 5 1 (.slice (some ⟨g, 0, none⟩) N cap) ys.length (cells8 ys) ∧ Below w.heap.size w wc))
      case first =>
        by_cases ha : 0 ≤ at_
        · obtain ⟨k, hk, hkN⟩ : ∃ k : Nat, at_.tmod N = (k : Int) ∧ k < N := by
            rw [Int.tmod_eq_emod_of_nonneg ha]
            have h1 := Int.emod_nonneg at_ (show (N : Int) ≠ 0 by omega)
            have h2 := Int.emod_lt_of_pos at_ hN0
            exact ⟨(at_ % N).toNat, by omega, by omega⟩
          have hc := HO9.out.cellAt k (by omega)
          rw [cells8_at zs k (by rw [hN.out]; exact hkN)] at hc
          have hf := HO9.out.frozenAt k
          have hkI : (k : Int) < (N : Int) := by omega
          have hcI : (N : Int) ≤ 9223372036854775807 := by omega
          have hk0 : 0 ≤ at_.tmod N := by omega
          obtain ⟨y, hy⟩ := xor8 zs k x hx
          have HY := hide hy
          clear hy
          go_wp2_with fail
          go_meet
          rw [HY.out]
          have h9 := HO9.out
          rw [← hN.out] at h9
          refine ⟨zs.set k y, by rw [List.length_set]; exact hN.out, ?_, HB9.out.setCell (p := ⟨g, k, none⟩) HGW.out _⟩
          have h10 := own_put h9 (by rw [hN.out]; exact hkN) y
          rw [hN.out] at h10
          exact h10
        · have ha' : ¬ (0 : Int) ≤ at_ := ha
          go_wp2_with fail
          go_meet
          exact ⟨zs, hN.out, by rw [hN.out]; exact HO9.out, HB9.out⟩
      case rest =>
        obtain ⟨ys, hys, HO11⟩ := hcut
        have HYS := hide hys
        clear HO9 HB9 hys
        obtain ⟨w11, hw11⟩ : ∃ x, x = wc := ⟨_, rfl⟩
        subst hw11
        have HYL : Hid (ys.length ≤ 900000) := by show _ ≤ _; rw [HYS.out]; omega
        have HSY := hide (Sl.of_own HO11.out.1)
        have HB11 := hide HO11.out.2
        have HD := hide (decode_any HSY.out HYL.out)
        obtain ⟨k2, s1, e1⟩ : ∃ n s, rNum (some ys) = (n, s) := ⟨_, _, rfl⟩
        obtain ⟨c2, s2, e2⟩ : ∃ n s, rNum s1 = (n, s) := ⟨_, _, rfl⟩
        obtain ⟨q2, s3, e3⟩ : ∃ n s, rNum s2 = (n, s) := ⟨_, _, rfl⟩
        obtain ⟨t2, s4, e4⟩ : ∃ n s, rText s3 = (n, s) := ⟨_, _, rfl⟩
        have HE : rCmd (some ys) = ((k2, c2, q2, t2), s4) := by simp only [rCmd, e1, e2, e3, e4]
        rw [HE] at HD
        dsimp only at HD
        obtain ⟨T2, hT2⟩ : ∃ T : ByteArray, Hid (⟨t2.toArray⟩ = T) := ⟨_, (rfl : _ = _)⟩
        have hmr : mayR (k2, c2, q2, t2) = mayB k2 c2 q2 T2.size := by rw [← hT2.out, tx_size]; rfl
        rw [hmr, tx, hT2.out] at HD
        obtain ⟨m2, hm2⟩ : ∃ m, Hid (mayB k2 c2 q2 T2.size = m) := ⟨_, (rfl : _ = _)⟩
        rw [hm2.out] at HD
        have E1 := hide e1
        have E2 := hide e2
        have E3 := hide e3
        have E4 := hide e4
        clear e1 e2 e3 e4 HE hmr hzl
        obtain ⟨z0, z1, z2, z3, f2, hz⟩ : ∃ (z0 z1 z2 : Int) (z3 : ByteArray) (f2 : Int), (okB s4 (!m2) = true ∧ z0 = k2 ∧ z1 = c2 ∧ z2 = q2 ∧ z3 = T2 ∧ f2 = 0 ∨ okB s4 (!m2) = false ∧ z0 = 0 ∧ z1 = 0 ∧ z2 = 0 ∧ z3 = ⟨#[]⟩ ∧ f2 = 3) ∧ Hid (Calls Try.prog 15 #[.slice (some ⟨g, 0, none⟩) N cap] w11 fun e w' => e = .returned (.tuple #[.agg #[.int .i64 z0, .int .i64 z1, .int .i64 z2, .string z3], .int .i64 f2]) ∧ Hid (Below w11.heap.size w11 w')) := by
          cases hok : okB s4 (!m2)
          · rw [okC_f hok, okN_f hok] at HD
            exact ⟨0, 0, 0, ⟨#[]⟩, 3, .inr ⟨rfl, rfl, rfl, rfl, rfl, rfl⟩, HD⟩
          · rw [okC_t hok, okN_t hok] at HD
            exact ⟨k2, c2, q2, T2, 0, .inl ⟨rfl, rfl, rfl, rfl, rfl, rfl⟩, HD⟩
        obtain ⟨hz1, HDC⟩ := hz
        have HZ := hide hz1
        clear HD hz1
        go_wp2_with fail
        refine Calls.mono HDC.out ?_
        rintro e w12 ⟨rfl, HB12⟩
        clear HDC
        go_upto_region 16 with fail
        obtain ⟨w13, hw13⟩ : ∃ x, Hid (x = w12.alloc (.cells #[.int .i64 z0, .int .i64 z1, .int .i64 z2, .string z3] 23)) := ⟨_, (rfl : _ = _)⟩
        rw [← hw13.out]
        have HB13 : Hid (Below w11.heap.size w11 w13) := by rw [hw13.out]; exact HB12.out.alloc HB12.out.size _
        have HD13 : Hid (w13.heap[w12.heap.size]? = some (.cells #[.int .i64 z0, .int .i64 z1, .int .i64 z2, .string z3] 23 (0, 0))) := by rw [hw13.out]; exact heap_alloc_new _ _
        have HW13 := hide (HB11.out.trans (HB13.out.mono HB11.out.size))
        have HS13 := hide (HSY.out.below HB13.out)
        obtain ⟨D, hD⟩ : ∃ D, Hid (w12.heap.size = D) := ⟨_, (rfl : _ = _)⟩
        rw [hD.out] at HD13 ⊢
        clear HB12 HB13 HSY HO11 HB11 hD hw13
        go_upto_region 17 with fail
        obtain ⟨w14, hw14⟩ : ∃ x, Hid (x = w13.alloc (.cells #[.slice (some ⟨g, 0, none⟩) N cap, .bool false] 38)) := ⟨_, (rfl : _ = _)⟩
        rw [← hw14.out]
        have HD14 : Hid (w14.heap[D]? = some (.cells #[.int .i64 z0, .int .i64 z1, .int .i64 z2, .string z3] 23 (0, 0))) := by rw [hw14.out]; exact heap_alloc_kept HD13.out _
        have HW14 : Hid (Below w.heap.size w w14) := by rw [hw14.out]; exact HW13.out.alloc HW13.out.size _
        have HRd : Hid (Rd w14 38 w13.heap.size (some ys)) := by
          rw [hw14.out]
          exact ⟨_, heap_alloc_new _ _, HS13.out.alloc _, Or.inr ⟨_, _, _, _, rfl⟩, by have := HYL.out; show ys.length ≤ _; omega⟩
        have hDB : D < w13.heap.size := lt_of_block HD13.out
        have hwB : w.heap.size ≤ w13.heap.size := HW13.out.size
        obtain ⟨B, hB⟩ : ∃ B, Hid (w13.heap.size = B) := ⟨_, (rfl : _ = _)⟩
        rw [hB.out] at HRd hDB hwB ⊢
        clear hB hw14 HD13 HW13 HS13
        have HN1 := hide (rfnum_is B (some ys) s1 k2 w14 HRd.out E1.out)
        go_wp2_with fail
        refine Calls.mono HN1.out ?_
        rintro e w15 ⟨rfl, HR15, HG15⟩
        have HD15 := hide (blk_grown HG15 HD14.out hDB)
        have HW15 := hide (HW14.out.grown HG15 HW14.out.size (fun k hk => by simp at hk; omega))
        have HN2 := hide (rfnum_is B s1 s2 c2 w15 HR15 E2.out)
        clear HN1 HG15 HD14 HW14 HRd HR15
        go_wp2_with fail
        refine Calls.mono HN2.out ?_
        rintro e w16 ⟨rfl, HR16, HG16⟩
        have HD16 := hide (blk_grown HG16 HD15.out hDB)
        have HW16 := hide (HW15.out.grown HG16 HW15.out.size (fun k hk => by simp at hk; omega))
        have HN3 := hide (rfnum_is B s2 s3 q2 w16 HR16 E3.out)
        clear HN2 HG16 HD15 HW15 HR16
        go_wp2_with fail
        refine Calls.mono HN3.out ?_
        rintro e w17 ⟨rfl, HR17, HG17⟩
        have HD17 := hide (blk_grown HG17 HD16.out hDB)
        have HW17 := hide (HW16.out.grown HG17 HW16.out.size (fun k hk => by simp at hk; omega))
        have HT4 := rftext_any B s3 w17 HR17
        rw [E4.out] at HT4
        dsimp only at HT4
        have HN4 := hide HT4
        clear HN3 HG17 HD16 HW16 HR17 HT4
        go_wp2_with fail
        refine Calls.mono HN4.out ?_
        rintro e w18 ⟨vt, rfl, HSt, HR18, HG18⟩
        have HD18 := hide (blk_grown HG18 HD17.out hDB)
        have HW18 := hide (HW17.out.grown HG18 HW17.out.size (fun k hk => by simp at hk; omega))
        obtain ⟨ta, tcap, rfl, -, -⟩ := HSt.shape
        have cvt := conv_sl_any HSt hT2.out
        obtain ⟨tn, htn⟩ : ∃ n, Hid (t2.length = n) := ⟨_, (rfl : _ = _)⟩
        rw [htn.out] at cvt ⊢
        have HR := hide HR18
        clear HN4 HG18 HD17 HW17 HR18 HSt E1 E2 E3 E4
        go_upto_region 18 with fail
        obtain ⟨w19, hw19⟩ : ∃ x, Hid (x = w18.alloc (.cells #[.int .i64 k2, .int .i64 c2, .int .i64 q2, .string T2] 23)) := ⟨_, (rfl : _ = _)⟩
        rw [← hw19.out]
        have HV19 : Hid (w19.heap[w18.heap.size]? = some (.cells #[.int .i64 k2, .int .i64 c2, .int .i64 q2, .string T2] 23 (0, 0))) := by rw [hw19.out]; exact heap_alloc_new _ _
        have HD19 : Hid (w19.heap[D]? = some (.cells #[.int .i64 z0, .int .i64 z1, .int .i64 z2, .string z3] 23 (0, 0))) := by rw [hw19.out]; exact heap_alloc_kept HD18.out _
        have HW19 : Hid (Below w.heap.size w w19) := by rw [hw19.out]; exact HW18.out.alloc HW18.out.size _
        obtain ⟨vb, hb1, hb2, hb3, -⟩ := HR.out
        have HB19 : Hid (w19.heap[B]? = some (.cells #[vb, .bool s4.isNone] 38 (0, 0))) := by rw [hw19.out]; exact heap_alloc_kept hb1 _
        obtain ⟨ba, bcap, rfl, -, -⟩ := hb2.shape
        obtain ⟨V, hV⟩ : ∃ V, Hid (w18.heap.size = V) := ⟨_, (rfl : _ = _)⟩
        rw [hV.out] at HV19 ⊢
        obtain ⟨bn, hbn⟩ : ∃ n, Hid ((s4.getD []).length = n) := ⟨_, (rfl : _ = _)⟩
        rw [hbn.out] at HB19
        clear cvt hb1 hb2 hb3 HD18 HW18 HR hV hw19
        obtain ⟨d0, d1, d2, d3⟩ := cells_Cmd HD19.out
        obtain ⟨v0, v1, v2, v3⟩ := cells_Cmd HV19.out
        have b0 : w19.cell? ⟨B, 0, none⟩ = some (.slice ba bn bcap) := by rw [cell_of_row w19 B _ _ 38 (0, 0) HB19.out]; rfl
        have b1 : w19.cell? ⟨B, 1, none⟩ = some (.bool s4.isNone) := by rw [cell_of_row w19 B _ _ 38 (0, 0) HB19.out]; rfl
        have HM := hide (mayRef_any k2 c2 q2 T2 w19)
        rw [hm2.out] at HM
        have hee : ((⟨#[]⟩ : ByteArray).toList == (⟨#[]⟩ : ByteArray).toList) = true := by simp
        have htt : (T2.toList == T2.toList) = true := by simp
        rcases HZ.out with ⟨hok, rfl, rfl, rfl, rfl, rfl⟩ | ⟨hok, rfl, rfl, rfl, rfl, rfl⟩
        · obtain ⟨rfl, hm3⟩ := (okB_iff _ _).1 hok
          obtain rfl : m2 = true := by cases m2 <;> simp_all
          have e0 : bn = 0 := hbn.out.symm
          subst e0
          have e1 : (some ([] : List UInt8)).isNone = false := rfl
          rw [e1] at b1
          clear hok hm3 HZ hbn e1 hm2
          go_wp2_with fail
          refine Calls.mono HM.out ?_
          rintro e w20 ⟨rfl, HB20⟩
          have HBe := hide (HW19.out.trans (HB20.out.mono HW19.out.size))
          obtain ⟨f0, f1, f2, f3⟩ := cells_Cmd ((HB20.out.block _ (lt_of_block HD19.out)).trans HD19.out)
          obtain ⟨g0, g1, g2, g3⟩ := cells_Cmd ((HB20.out.block _ (lt_of_block HV19.out)).trans HV19.out)
          clear HM d0 d1 d2 d3 v0 v1 v2 v3 b0 b1
          go_wp2_with fail
          go_ret
          exact ⟨rfl, HBe.out⟩
        · rcases s4 with _ | _ | ⟨y, r⟩
          · have e1 : (none : Option (List UInt8)).isNone = true := rfl
            rw [e1] at b1
            clear HZ hbn HB19 e1
            go_wp2_with fail
            go_ret
            exact ⟨rfl, HW19.out⟩
          · have e1 : (some ([] : List UInt8)).isNone = false := rfl
            rw [e1] at b1
            have e0 : bn = 0 := hbn.out.symm
            subst e0
            obtain rfl : m2 = false := by
              cases m2
              · rfl
              · exact absurd ((okB_iff (some []) (!true)).2 ⟨rfl, rfl⟩) (by rw [hok]; simp)
            clear HZ hbn HB19 e1 hok hm2
            go_wp2_with fail
            refine Calls.mono HM.out ?_
            rintro e w20 ⟨rfl, HB20⟩
            have HBe := hide (HW19.out.trans (HB20.out.mono HW19.out.size))
            obtain ⟨f0, f1, f2, f3⟩ := cells_Cmd ((HB20.out.block _ (lt_of_block HD19.out)).trans HD19.out)
            clear HM d0 d1 d2 d3 v0 v1 v2 v3 b0 b1
            go_wp2_with fail
            go_ret
            exact ⟨rfl, HBe.out⟩
          · have e1 : (some (y :: r)).isNone = false := rfl
            rw [e1] at b1
            have hpos : 0 < (bn : Int) := by have h := hbn.out; simp at h; omega
            clear HZ hbn HB19 e1
            go_wp2_with fail
            go_ret
            exact ⟨rfl, HW19.out⟩
end Go.Proofs.Ytgknpbgepgmmmaa.Cm
namespace Go.Proofs.Ytgknpbgepgmmmaa.Cm
open Go.ChangeShapes Go.WideShapes Go.ChangeAt Go.RowKit Go.Joins
open Bn Kp

/-- The bytes of a slice that is read. -/
theorem told8 {H : Type} {enc : TypeId × Value → H} {w : World} {fuel : Nat} {v : Value} {y : DataW H × List MemPlace} (h : DataW.trod enc Try.prog w 0 (fun _ => true) true fuel 24 [v] = some y) : ∃ ao l c bs, v = .slice ao l c ∧ Sl w (.slice ao l c) bs := by
  rcases open_ints Try.underlying24 Try.underlying5 (by kernel_rfl) h with ⟨hcs, _⟩ | ⟨x, l, c, zs, hcs, _, hl, hm, hz, _, hcell, hwz⟩
  · simp at hcs
    exact ⟨_, _, _, [], hcs, Sl.nil w⟩
  · simp at hcs
    subst hcs
    simp at hz
    have hlen : ((zs.take l).map fun n => UInt8.ofNat n.toNat).length = l := by simp; omega
    refine ⟨_, _, _, (zs.take l).map fun n => UInt8.ofNat n.toNat, rfl, some x, c, by rw [hlen], by omega, hm, fun e => by simp at e, fun hp => ?_⟩
    rw [hlen] at hp ⊢
    obtain ⟨b, off, rfl, hc⟩ := ints_at hcell (by omega)
    refine ⟨b, off, rfl, fun j hj => ?_⟩
    rw [hc j (by omega)]
    have hjz : j < zs.length := by omega
    have hb := bounds_u8 (hwz _ (List.getElem_mem hjz))
    have e1 : zs.getD j 0 = zs[j] := by simp [List.getD, List.getElem?_eq_getElem hjz]
    have e2 : ((zs.take l).map fun n => UInt8.ofNat n.toNat).getD j 0 = UInt8.ofNat (zs[j]).toNat := by
      simp [List.getD, hj, List.getElem?_eq_getElem hjz]
    unfold at8
    rw [e1, e2, toNat_lo (by omega)]
    congr 2
    omega
/-- The numbers of a slice that is read. -/
theorem toldI {H : Type} {enc : TypeId × Value → H} {w : World} {fuel : Nat} {v : Value} {y : DataW H × List MemPlace} (h : DataW.trod enc Try.prog w 0 (fun _ => true) true fuel 52 [v] = some y) : ∃ ao l c ns, v = .slice ao l c ∧ IsR w (.slice ao l c) (cI ns) ∧ (∀ n ∈ ns, I64 n) ∧ ns.length ≤ 9223372036854775807 := by
  rcases open_ints Try.underlying52 Try.underlying3 (by kernel_rfl) h with ⟨hcs, _⟩ | ⟨x, l, c, zs, hcs, _, hl, hm, hz, _, hcell, hwz⟩
  · simp at hcs
    exact ⟨_, _, _, [], hcs, ⟨none, 0, rfl, Nat.le_refl _, by simp [maxLen], fun h => by simp [cI] at h⟩, fun n h => by simp at h, by simp⟩
  · simp at hcs
    subst hcs
    simp at hz
    have hlen : (cI (zs.take l)).length = l := by rw [cI_len]; simp; omega
    have hm' : c ≤ 9223372036854775807 := hm
    refine ⟨_, _, _, zs.take l, rfl, ⟨some x, c, by rw [hlen], by omega, hm, fun hp => ?_⟩, fun n hn => bounds_i64 (hwz n (List.mem_of_mem_take hn)), by simp only [List.length_take]; omega⟩
    rw [hlen] at hp
    obtain ⟨b, off, rfl, hc⟩ := ints_at hcell (by omega)
    refine ⟨b, off, rfl, fun j u hj => ?_⟩
    have hjl : j < l := by
      have := (List.getElem?_eq_some_iff.1 hj).1
      rw [hlen] at this
      exact this
    have hjz : j < zs.length := by omega
    rw [hc j (by omega)]
    rw [← hj]
    simp [cI, hjl, List.getD, List.getElem?_eq_getElem hjz]
set_option maxRecDepth 100000 in
theorem told_snap {H : Type} {enc : TypeId × Value → H} {w : World} {r : Reach} {b0 : Nat} {v : Value} {d : DataW H} {p : List MemPlace} (hv : Value.okWide Try.prog w r b0 62 v) (h : DataW.Trod enc Try.prog w 0 (fun _ => true) true 62 v d p) :
    ∃ (s : Snp) (ac : Option Addr) (lc cc : Nat) (ad : Option Addr) (ld cd : Nat), v = .agg #[.int .i64 s.idx, .int .i64 s.term, .slice ac lc cc, .slice ad ld cd] ∧ SnV w ac lc cc ad ld cd s ∧ s.ok := by
  obtain ⟨v0, v1, v2, v3, y0, y1, y2, y3, n, rfl, _, _, h0, h1, h2, h3⟩ := open_agg4 Try.underlying62 (by kernel_rfl) (by kernel_rfl) hv h
  obtain ⟨z0, e0, _, w0⟩ := DataW.trod_int Try.underlying2 h0
  obtain ⟨z1, e1, _, w1⟩ := DataW.trod_int Try.underlying2 h1
  simp at e0 e1
  subst e0 e1
  obtain ⟨ac, lc, cc, ns, rfl, hI, hO, hL⟩ := toldI h2
  obtain ⟨ad, ld, cd, bs, rfl, hS⟩ := told8 h3
  refine ⟨⟨z0, z1, ns, bs⟩, ac, lc, cc, ad, ld, cd, rfl, ⟨hI, hS⟩, bounds_i64 w0, bounds_i64 w1, hO, hL, ?_⟩
  have h1 := hS.len
  obtain ⟨_, _, e, g1, g2, _⟩ := hS
  have g2' : _ ≤ 9223372036854775807 := g2
  show bs.length ≤ _
  omega

end Go.Proofs.Ytgknpbgepgmmmaa.Cm

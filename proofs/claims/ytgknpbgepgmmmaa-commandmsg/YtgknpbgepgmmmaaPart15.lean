/- CommandMsg: ReadMsg of bytes that are a message's, and of others. CommandMsg: the law's region that cuts both messages. CommandMsg: the law's region that tells what was read. The walk of CommandMsg. -/
import Derived.Test.YtgknpbgepgmmmaaPart14
import Derived.Test.YtgknpbgepgmmmaaPart11
import Derived.Test.YtgknpbgepgmmmaaPart13
namespace Go.Proofs.Ytgknpbgepgmmmaa.Cm
open Go.RowKit Bn Kp

theorem readMg_any {w : World} {v : Value} {bs : List UInt8} (hS : Sl w v bs) (hl : bs.length ≤ 900000) :
    Calls Try.prog 24 #[v] w fun e w' => ∃ ues ucf udt, e = .returned (.tuple #[.agg (okC (rMg (some bs)).1.2 (rMg (some bs)).2 #[.int .i64 (rMg (some bs)).1.1.kind, .int .i64 (rMg (some bs)).1.1.frm, .int .i64 (rMg (some bs)).1.1.dst, .int .i64 (rMg (some bs)).1.1.term, .int .i64 (rMg (some bs)).1.1.idx, .int .i64 (rMg (some bs)).1.1.lterm, .int .i64 (rMg (some bs)).1.1.commit, ues, .bool (rMg (some bs)).1.1.ok, .int .i64 (rMg (some bs)).1.1.hint, ucf, udt, .int .i64 (rMg (some bs)).1.1.off, .int .i64 (rMg (some bs)).1.1.size, .int .i64 (rMg (some bs)).1.1.ctx] #[.int .i64 0, .int .i64 0, .int .i64 0, .int .i64 0, .int .i64 0, .int .i64 0, .int .i64 0, .slice none 0 0, .bool false, .int .i64 0, .slice none 0 0, .slice none 0 0, .int .i64 0, .int .i64 0, .int .i64 0]), .int .i64 (okN (rMg (some bs)).1.2 (rMg (some bs)).2)]) ∧ Hid (MsgR w w' ues (rMg (some bs)).1.1.ents ucf (rMg (some bs)).1.1.conf udt (rMg (some bs)).1.1.data) := by
  obtain ⟨n0, s0, e0⟩ : ∃ n s, rNum (some bs) = (n, s) := ⟨_, _, rfl⟩
  obtain ⟨n1, s1, e1⟩ : ∃ n s, rNum s0 = (n, s) := ⟨_, _, rfl⟩
  obtain ⟨n2, s2, e2⟩ : ∃ n s, rNum s1 = (n, s) := ⟨_, _, rfl⟩
  obtain ⟨n3, s3, e3⟩ : ∃ n s, rNum s2 = (n, s) := ⟨_, _, rfl⟩
  obtain ⟨n4, s4, e4⟩ : ∃ n s, rNum s3 = (n, s) := ⟨_, _, rfl⟩
  obtain ⟨n5, s5, e5⟩ : ∃ n s, rNum s4 = (n, s) := ⟨_, _, rfl⟩
  obtain ⟨n6, s6, e6⟩ : ∃ n s, rNum s5 = (n, s) := ⟨_, _, rfl⟩
  obtain ⟨n7, s7, v7, e7⟩ : ∃ n s x, rdLs rEnt 9223372036854775807 s6 false = ((n, s), x) := ⟨_, _, _, rfl⟩
  obtain ⟨n8, s8, e8⟩ : ∃ n s, rFlag s7 = (n, s) := ⟨_, _, rfl⟩
  obtain ⟨n9, s9, e9⟩ : ∃ n s, rNum s8 = (n, s) := ⟨_, _, rfl⟩
  obtain ⟨n10, s10, v10, e10⟩ : ∃ n s x, rdLs rNum 9223372036854775807 s9 v7 = ((n, s), x) := ⟨_, _, _, rfl⟩
  obtain ⟨n11, s11, e11⟩ : ∃ n s, rText s10 = (n, s) := ⟨_, _, rfl⟩
  obtain ⟨n12, s12, e12⟩ : ∃ n s, rNum s11 = (n, s) := ⟨_, _, rfl⟩
  obtain ⟨n13, s13, e13⟩ : ∃ n s, rNum s12 = (n, s) := ⟨_, _, rfl⟩
  obtain ⟨n14, s14, e14⟩ : ∃ n s, rNum s13 = (n, s) := ⟨_, _, rfl⟩
  have HE : rMg (some bs) = ((⟨n0, n1, n2, n3, n4, n5, n6, n7, n8, n9, n10, n11, n12, n13, n14⟩, s14), v10) := by simp only [rMg, e0, e1, e2, e3, e4, e5, e6, e7, e8, e9, e10, e11, e12, e13, e14]
  rw [HE]
  exact readMsg_any hS hl n0 n1 n2 n3 n4 n5 n6 n7 n8 n9 n10 n11 n12 n13 n14 s0 s1 s2 s3 s4 s5 s6 s7 s8 s9 s10 s11 s12 s13 s14 v7 v10 e0 e1 e2 e3 e4 e5 e6 e7 e8 e9 e10 e11 e12 e13 e14
theorem mgV_of {w w' : World} {ues ucf udt : Value} {m : Mg} (h : MsgR w w' ues m.ents ucf m.conf udt m.data) : ∃ ae le ce ac lc cc ad ld cd, ues = .slice ae le ce ∧ ucf = .slice ac lc cc ∧ udt = .slice ad ld cd ∧ MgV w' ae le ce ac lc cc ad ld cd m := by
  obtain ⟨_, h1, h2, h3⟩ := h
  obtain ⟨us, g1, g2, g3⟩ := h1
  obtain ⟨ae, le, ce, rfl⟩ := Kp.own_slice g2
  obtain ⟨ac, lc, cc, rfl⟩ := Kp.own_slice h2
  obtain ⟨ad, ld, cd, rfl⟩ := Kp.own_slice h3
  exact ⟨ae, le, ce, ac, lc, cc, ad, ld, cd, rfl, rfl, rfl, Es.of_er ⟨us, g1, g2, g3⟩, IsR.of_own h2, Sl.of_own h3⟩
theorem readMg_yes {w : World} {v : Value} {bs : List UInt8} (hS : Sl w v bs) (hl : bs.length ≤ 900000) {m : Mg} (h : rMg (some bs) = ((m, some []), false)) :
    Calls Try.prog 24 #[v] w fun e w' => ∃ ae le ce ac lc cc ad ld cd, e = .returned (.tuple #[.agg #[.int .i64 m.kind, .int .i64 m.frm, .int .i64 m.dst, .int .i64 m.term, .int .i64 m.idx, .int .i64 m.lterm, .int .i64 m.commit, .slice ae le ce, .bool m.ok, .int .i64 m.hint, .slice ac lc cc, .slice ad ld cd, .int .i64 m.off, .int .i64 m.size, .int .i64 m.ctx], .int .i64 0]) ∧ Hid (MgV w' ae le ce ac lc cc ad ld cd m ∧ Below w.heap.size w w') := by
  have H := readMg_any hS hl
  rw [h] at H
  refine H.mono ?_
  rintro e w' ⟨ues, ucf, udt, he, hp⟩
  obtain ⟨ae, le, ce, ac, lc, cc, ad, ld, cd, rfl, rfl, rfl, hv⟩ := mgV_of hp.out
  rw [okC_t (by rfl), okN_t (by rfl)] at he
  exact ⟨ae, le, ce, ac, lc, cc, ad, ld, cd, he, hv, hp.out.1⟩
theorem readMg_ok {w : World} {v : Value} {bs : List UInt8} (hS : Sl w v bs) (hl : bs.length ≤ 900000) (h : okB (rMg (some bs)).1.2 (rMg (some bs)).2 = true) :
    Calls Try.prog 24 #[v] w fun e w' => ∃ ae le ce ac lc cc ad ld cd, e = .returned (.tuple #[.agg #[.int .i64 (rMg (some bs)).1.1.kind, .int .i64 (rMg (some bs)).1.1.frm, .int .i64 (rMg (some bs)).1.1.dst, .int .i64 (rMg (some bs)).1.1.term, .int .i64 (rMg (some bs)).1.1.idx, .int .i64 (rMg (some bs)).1.1.lterm, .int .i64 (rMg (some bs)).1.1.commit, .slice ae le ce, .bool (rMg (some bs)).1.1.ok, .int .i64 (rMg (some bs)).1.1.hint, .slice ac lc cc, .slice ad ld cd, .int .i64 (rMg (some bs)).1.1.off, .int .i64 (rMg (some bs)).1.1.size, .int .i64 (rMg (some bs)).1.1.ctx], .int .i64 0]) ∧ Hid (MgV w' ae le ce ac lc cc ad ld cd (rMg (some bs)).1.1 ∧ Below w.heap.size w w') := by
  refine (readMg_any hS hl).mono ?_
  rintro e w' ⟨ues, ucf, udt, he, hp⟩
  obtain ⟨ae, le, ce, ac, lc, cc, ad, ld, cd, rfl, rfl, rfl, hv⟩ := mgV_of hp.out
  rw [okC_t h, okN_t h] at he
  exact ⟨ae, le, ce, ac, lc, cc, ad, ld, cd, he, hv, hp.out.1⟩
theorem readMg_no {w : World} {v : Value} {bs : List UInt8} (hS : Sl w v bs) (hl : bs.length ≤ 900000) (h : okB (rMg (some bs)).1.2 (rMg (some bs)).2 = false) :
    Calls Try.prog 24 #[v] w fun e w' => e = .returned (.tuple #[.agg #[.int .i64 0, .int .i64 0, .int .i64 0, .int .i64 0, .int .i64 0, .int .i64 0, .int .i64 0, .slice none 0 0, .bool false, .int .i64 0, .slice none 0 0, .slice none 0 0, .int .i64 0, .int .i64 0, .int .i64 0], .int .i64 3]) ∧ Hid (Below w.heap.size w w') := by
  refine (readMg_any hS hl).mono ?_
  rintro e w' ⟨ues, ucf, udt, he, hp⟩
  rw [okC_f h, okN_f h] at he
  exact ⟨he, hp.out.1⟩

end Go.Proofs.Ytgknpbgepgmmmaa.Cm
namespace Go.Proofs.Ytgknpbgepgmmmaa.Cm
open Go.RowKit Bn Kp

set_option maxRecDepth 8000 in
set_option maxHeartbeats 16000000 in
theorem msg_r4 {Q : Exit → Act → World → Prop} {w w1 : World} {s t s1 t1 : Mg} {ae ac ad be bc bd : Option Addr} {le ce lc cc ld cd me de mc dc md dd : Nat} {x0 x1 x2 x3 x6 x7 x8 x9 x10 x11 x12 x13 x14 x15 x16 x17 x18 x19 x20 x21 x22 x23 x24 x25 x26 x27 x28 x29 x30 x31 x32 x33 x34 x35 x36 x37 x38 x39 x40 x41 x42 x43 x44 x45 x46 x47 x48 x49 x50 x51 x52 x53 x54 x55 x56 x57 x58 x59 x60 x61 x62 x63 x64 x65 x66 x67 x68 x69 x70 x71 x72 x73 x74 x75 x76 x77 x78 x79 x80 x81 x82 x83 x84 x85 x86 x87 x88 x89 x90 x91 x92 x93 x94 : Value}
    (HS1 : Hid (∀ W : World, Below w.heap.size w W → Calls Try.prog 22 #[.agg #[.int .i64 s.kind, .int .i64 s.frm, .int .i64 s.dst, .int .i64 s.term, .int .i64 s.idx, .int .i64 s.lterm, .int .i64 s.commit, .slice ae le ce, .bool s.ok, .int .i64 s.hint, .slice ac lc cc, .slice ad ld cd, .int .i64 s.off, .int .i64 s.size, .int .i64 s.ctx]] W fun e w' => ∃ ae1 le1 ce1 ac1 lc1 cc1 ad1 ld1 cd1, e = .returned (.agg #[.int .i64 s1.kind, .int .i64 s1.frm, .int .i64 s1.dst, .int .i64 s1.term, .int .i64 s1.idx, .int .i64 s1.lterm, .int .i64 s1.commit, .slice ae1 le1 ce1, .bool s1.ok, .int .i64 s1.hint, .slice ac1 lc1 cc1, .slice ad1 ld1 cd1, .int .i64 s1.off, .int .i64 s1.size, .int .i64 s1.ctx]) ∧ Hid (Ec W.heap.size w w' (.slice ae1 le1 ce1) s1.ents ∧ IsR w (.slice ac1 lc1 cc1) (cI s1.conf) ∧ Sl w (.slice ad1 ld1 cd1) s1.data ∧ Below W.heap.size W w')))
    (HT1 : Hid (∀ W : World, Below w.heap.size w W → Calls Try.prog 22 #[.agg #[.int .i64 t.kind, .int .i64 t.frm, .int .i64 t.dst, .int .i64 t.term, .int .i64 t.idx, .int .i64 t.lterm, .int .i64 t.commit, .slice be me de, .bool t.ok, .int .i64 t.hint, .slice bc mc dc, .slice bd md dd, .int .i64 t.off, .int .i64 t.size, .int .i64 t.ctx]] W fun e w' => ∃ be2 le2 ce2 bc2 lc2 cc2 bd2 ld2 cd2, e = .returned (.agg #[.int .i64 t1.kind, .int .i64 t1.frm, .int .i64 t1.dst, .int .i64 t1.term, .int .i64 t1.idx, .int .i64 t1.lterm, .int .i64 t1.commit, .slice be2 le2 ce2, .bool t1.ok, .int .i64 t1.hint, .slice bc2 lc2 cc2, .slice bd2 ld2 cd2, .int .i64 t1.off, .int .i64 t1.size, .int .i64 t1.ctx]) ∧ Hid (Ec W.heap.size w w' (.slice be2 le2 ce2) t1.ents ∧ IsR w (.slice bc2 lc2 cc2) (cI t1.conf) ∧ Sl w (.slice bd2 ld2 cd2) t1.data ∧ Below W.heap.size W w')))
    (HY1 : Hid (w1.heap[w.heap.size]? = some (.cells #[.int .i64 s.kind, .int .i64 s.frm, .int .i64 s.dst, .int .i64 s.term, .int .i64 s.idx, .int .i64 s.lterm, .int .i64 s.commit, .slice ae le ce, .bool s.ok, .int .i64 s.hint, .slice ac lc cc, .slice ad ld cd, .int .i64 s.off, .int .i64 s.size, .int .i64 s.ctx] 54 (0, 0)))) (HY2 : Hid (w1.heap[w.heap.size + 1]? = some (.cells #[.int .i64 t.kind, .int .i64 t.frm, .int .i64 t.dst, .int .i64 t.term, .int .i64 t.idx, .int .i64 t.lterm, .int .i64 t.commit, .slice be me de, .bool t.ok, .int .i64 t.hint, .slice bc mc dc, .slice bd md dd, .int .i64 t.off, .int .i64 t.size, .int .i64 t.ctx] 54 (0, 0)))) (HBw1 : Hid (Below w.heap.size w w1)) (hsz1 : w.heap.size + 2 ≤ w1.heap.size)
    (hQ : Hid (∀ (y19 y20 y21 y22 : Value) (ae1 ac1 ad1 : Option Addr) (le1 ce1 lc1 cc1 ld1 cd1 : Nat) (be2 bc2 bd2 : Option Addr) (le2 ce2 lc2 cc2 ld2 cd2 : Nat) (wc : World), wc.heap[w.heap.size]? = some (.cells #[.int .i64 s1.kind, .int .i64 s1.frm, .int .i64 s1.dst, .int .i64 s1.term, .int .i64 s1.idx, .int .i64 s1.lterm, .int .i64 s1.commit, .slice ae1 le1 ce1, .bool s1.ok, .int .i64 s1.hint, .slice ac1 lc1 cc1, .slice ad1 ld1 cd1, .int .i64 s1.off, .int .i64 s1.size, .int .i64 s1.ctx] 54 (0, 0)) → wc.heap[w.heap.size + 1]? = some (.cells #[.int .i64 t1.kind, .int .i64 t1.frm, .int .i64 t1.dst, .int .i64 t1.term, .int .i64 t1.idx, .int .i64 t1.lterm, .int .i64 t1.commit, .slice be2 le2 ce2, .bool t1.ok, .int .i64 t1.hint, .slice bc2 lc2 cc2, .slice bd2 ld2 cd2, .int .i64 t1.off, .int .i64 t1.size, .int .i64 t1.ctx] 54 (0, 0)) → Hid (Below w.heap.size w wc ∧ MgV wc ae1 le1 ce1 ac1 lc1 cc1 ad1 ld1 cd1 s1 ∧ MgV wc be2 le2 ce2 bc2 lc2 cc2 bd2 ld2 cd2 t1) → Q .normal ⟨#[x0, x1, x2, x3, .pointer (some ⟨w.heap.size, 0, none⟩), .pointer (some ⟨w.heap.size + 1, 0, none⟩), x6, x7, x8, x9, x10, x11, x12, x13, x14, x15, x16, x17, x18, y19, y20, y21, y22, x23, x24, x25, x26, x27, x28, x29, x30, x31, x32, x33, x34, x35, x36, x37, x38, x39, x40, x41, x42, x43, x44, x45, x46, x47, x48, x49, x50, x51, x52, x53, x54, x55, x56, x57, x58, x59, x60, x61, x62, x63, x64, x65, x66, x67, x68, x69, x70, x71, x72, x73, x74, x75, x76, x77, x78, x79, x80, x81, x82, x83, x84, x85, x86, x87, x88, x89, x90, x91, x92, x93, x94], []⟩ wc)) :
    (Code.region 4
    #[{ dst := some 19, op := Op.load 54 (Operand.tmp 4), type := 54, pos := "law.go:130", after := #[], guard := none },
    { dst := some 20, op := Op.call { callee := Callee.value (Operand.func 22), args := #[Operand.tmp 19], argTypes := #[54] }, type := 54, pos := "law.go:130", after := #[{ on := 0, ground := Ground.data }], guard := none },
    { dst := some 21, op := Op.load 54 (Operand.tmp 5), type := 54, pos := "law.go:130", after := #[], guard := none },
    { dst := some 22, op := Op.call { callee := Callee.value (Operand.func 22), args := #[Operand.tmp 21], argTypes := #[54] }, type := 54, pos := "law.go:130", after := #[{ on := 2, ground := Ground.data }, { on := 1, ground := Ground.chain }], guard := none },
    { dst := none, op := Op.store 54 (Operand.tmp 4) (Operand.tmp 20), type := 0, pos := "law.go:130", after := #[{ on := 1, ground := Ground.data }, { on := 3, ground := Ground.chain }, { on := 0, ground := Ground.phase }, { on := 1, ground := Ground.phase }, { on := 2, ground := Ground.textOnly Departure.lateStores }, { on := 3, ground := Ground.textOnly Departure.lateStoresUnsure }], guard := none },
    { dst := none, op := Op.store 54 (Operand.tmp 5) (Operand.tmp 22), type := 0, pos := "law.go:130", after := #[{ on := 3, ground := Ground.data }, { on := 4, ground := Ground.chain }, { on := 0, ground := Ground.phase }, { on := 1, ground := Ground.phase }, { on := 2, ground := Ground.phase }, { on := 3, ground := Ground.phase }, { on := 4, ground := Ground.phase }], guard := none }] true).wp Try.prog (NoPanic Q) ⟨#[x0, x1, x2, x3, .pointer (some ⟨w.heap.size, 0, none⟩), .pointer (some ⟨w.heap.size + 1, 0, none⟩), x6, x7, x8, x9, x10, x11, x12, x13, x14, x15, x16, x17, x18, x19, x20, x21, x22, x23, x24, x25, x26, x27, x28, x29, x30, x31, x32, x33, x34, x35, x36, x37, x38, x39, x40, x41, x42, x43, x44, x45, x46, x47, x48, x49, x50, x51, x52, x53, x54, x55, x56, x57, x58, x59, x60, x61, x62, x63, x64, x65, x66, x67, x68, x69, x70, x71, x72, x73, x74, x75, x76, x77, x78, x79, x80, x81, x82, x83, x84, x85, x86, x87, x88, x89, x90, x91, x92, x93, x94], []⟩ w1 := by
  obtain ⟨a0, a1, a2, a3, a4, a5, a6, a7, a8, a9, a10, a11, a12, a13, a14⟩ := cells_Msg HY1.out
  obtain ⟨b0, b1, b2, b3, b4, b5, b6, b7, b8, b9, b10, b11, b12, b13, b14⟩ := cells_Msg HY2.out
  have S1 := hide (HS1.out w1.drew HBw1.out.drew)
  go_region_with (first
    | (go_at_call 22; (with_reducible refine Calls.mono S1.out ?_); rintro e w2 ⟨ae1, le1, ce1, ac1, lc1, cc1, ad1, ld1, cd1, rfl, HP2⟩
       have hx3 := (HP2.out.2.2.2.block _ (lt_of_block HY1.out)).trans HY1.out
       have hx4 := (HP2.out.2.2.2.block _ (lt_of_block HY2.out)).trans HY2.out
       obtain ⟨p0, p1, p2, p3, p4, p5, p6, p7, p8, p9, p10, p11, p12, p13, p14⟩ := cells_Msg hx3
       obtain ⟨q0, q1, q2, q3, q4, q5, q6, q7, q8, q9, q10, q11, q12, q13, q14⟩ := cells_Msg hx4
       have HX3 := hide hx3
       have HX4 := hide hx4
       clear hx3 hx4
       have HB2 := hide (HBw1.out.drew.trans (HP2.out.2.2.2.mono HBw1.out.size))
       have S2 := hide (HT1.out w2 HB2.out))
    | (go_at_call 22; (with_reducible refine Calls.mono S2.out ?_); rintro e w3 ⟨be2, le2, ce2, bc2, lc2, cc2, bd2, ld2, cd2, rfl, HP3⟩
       have hx5 := (HP3.out.2.2.2.block _ (lt_of_block HX3.out)).trans HX3.out
       have hx6 := (HP3.out.2.2.2.block _ (lt_of_block HX4.out)).trans HX4.out
       obtain ⟨r0, r1, r2, r3, r4, r5, r6, r7, r8, r9, r10, r11, r12, r13, r14⟩ := cells_Msg hx5
       obtain ⟨o0, o1, o2, o3, o4, o5, o6, o7, o8, o9, o10, o11, o12, o13, o14⟩ := cells_Msg hx6
       have fr := fun i => frozen_of_row w3 _ i _ _ hx5
       have fo := fun i => frozen_of_row w3 _ i _ _ hx6
       have HX5 := hide hx5
       have HX6 := hide hx6
       clear hx5 hx6))
  all_goals refine NoPanic.normal ?_
  all_goals have HC := cut_fin (w1 := w1.drew) hsz1 HBw1.out.drew HP2.out HP3.out HX5.out HX6.out
  all_goals exact hQ.out _ _ _ _ _ _ _ _ _ _ _ _ _ _ _ _ _ _ _ _ _ _ _ HC.1 HC.2.1 HC.2.2

end Go.Proofs.Ytgknpbgepgmmmaa.Cm
namespace Go.Proofs.Ytgknpbgepgmmmaa.Cm
open Go.RowKit Bn Kp

set_option maxRecDepth 8000 in
set_option maxHeartbeats 16000000 in
theorem msg_r7 {Q : Exit → Act → World → Prop} {w7 : World} {B1 B2 P : Nat} {s1 t1 : Mg} {ae1 ac1 ad1 : Option Addr} {le1 ce1 lc1 cc1 ld1 cd1 : Nat} {be2 bc2 bd2 : Option Addr} {le2 ce2 lc2 cc2 ld2 cd2 : Nat} {ke kc kd : Option Addr} {kle kce klc kcc kld kcd : Nat} {aa ab : Option Addr} {la ca lb cb : Nat} {Xa Xb : ByteArray} {r : Bool} {x0 x1 x2 x3 x6 x7 x8 x9 x14 x15 x16 x17 x18 x19 x20 x21 x22 x23 x24 x25 x26 x27 x28 x29 x30 x31 x32 x33 x34 x35 x36 x37 x38 x39 x40 x41 x42 x43 x44 x45 x46 x47 x48 x49 x50 x51 x52 x53 x54 x55 x56 x57 x58 x59 x60 x61 x62 x63 x64 x65 x66 x67 x68 x69 x70 x71 x72 x73 x74 x75 x76 x77 x78 x79 x80 x81 x82 x83 x84 x85 x86 x87 x88 x89 x90 x91 x92 x93 x94 : Value}
    (HBEQ : Hid ((Xa.toList == Xb.toList) = r)) (HSS : Hid (∀ u, Below w7.heap.size w7 u → S15 P (.int .i64 s1.kind) (.int .i64 s1.frm) (.int .i64 s1.dst) (.int .i64 s1.term) (.int .i64 s1.idx) (.int .i64 s1.lterm) (.int .i64 s1.commit) (.slice ke kle kce) (.bool s1.ok) (.int .i64 s1.hint) (.slice kc klc kcc) (.slice kd kld kcd) (.int .i64 s1.off) (.int .i64 s1.size) (.int .i64 s1.ctx) u ∧ (S15 B1 (.int .i64 s1.kind) (.int .i64 s1.frm) (.int .i64 s1.dst) (.int .i64 s1.term) (.int .i64 s1.idx) (.int .i64 s1.lterm) (.int .i64 s1.commit) (.slice ae1 le1 ce1) (.bool s1.ok) (.int .i64 s1.hint) (.slice ac1 lc1 cc1) (.slice ad1 ld1 cd1) (.int .i64 s1.off) (.int .i64 s1.size) (.int .i64 s1.ctx) u ∧ S15 B2 (.int .i64 t1.kind) (.int .i64 t1.frm) (.int .i64 t1.dst) (.int .i64 t1.term) (.int .i64 t1.idx) (.int .i64 t1.lterm) (.int .i64 t1.commit) (.slice be2 le2 ce2) (.bool t1.ok) (.int .i64 t1.hint) (.slice bc2 lc2 cc2) (.slice bd2 ld2 cd2) (.int .i64 t1.off) (.int .i64 t1.size) (.int .i64 t1.ctx) u) ∧ (convert 24 9 (.slice aa la ca)).run Try.prog u = .ok (.string Xa) u ∧ (convert 24 9 (.slice ab lb cb)).run Try.prog u = .ok (.string Xb) u))
    (HE1 : Hid (Calls Try.prog 25 #[.agg #[.int .i64 s1.kind, .int .i64 s1.frm, .int .i64 s1.dst, .int .i64 s1.term, .int .i64 s1.idx, .int .i64 s1.lterm, .int .i64 s1.commit, .slice ke kle kce, .bool s1.ok, .int .i64 s1.hint, .slice kc klc kcc, .slice kd kld kcd, .int .i64 s1.off, .int .i64 s1.size, .int .i64 s1.ctx], .agg #[.int .i64 s1.kind, .int .i64 s1.frm, .int .i64 s1.dst, .int .i64 s1.term, .int .i64 s1.idx, .int .i64 s1.lterm, .int .i64 s1.commit, .slice ae1 le1 ce1, .bool s1.ok, .int .i64 s1.hint, .slice ac1 lc1 cc1, .slice ad1 ld1 cd1, .int .i64 s1.off, .int .i64 s1.size, .int .i64 s1.ctx]] w7.drew fun e w8 => e = .returned (.bool true) ∧ Hid (Below w7.heap.size w7 w8)))
    (HE2 : Hid (∀ w8 : World, Below w7.heap.size w7 w8 → Calls Try.prog 25 #[.agg #[.int .i64 s1.kind, .int .i64 s1.frm, .int .i64 s1.dst, .int .i64 s1.term, .int .i64 s1.idx, .int .i64 s1.lterm, .int .i64 s1.commit, .slice ae1 le1 ce1, .bool s1.ok, .int .i64 s1.hint, .slice ac1 lc1 cc1, .slice ad1 ld1 cd1, .int .i64 s1.off, .int .i64 s1.size, .int .i64 s1.ctx], .agg #[.int .i64 t1.kind, .int .i64 t1.frm, .int .i64 t1.dst, .int .i64 t1.term, .int .i64 t1.idx, .int .i64 t1.lterm, .int .i64 t1.commit, .slice be2 le2 ce2, .bool t1.ok, .int .i64 t1.hint, .slice bc2 lc2 cc2, .slice bd2 ld2 cd2, .int .i64 t1.off, .int .i64 t1.size, .int .i64 t1.ctx]] w8 fun e w9 => e = .returned (.bool r) ∧ Hid (Below w7.heap.size w7 w9)))
    (hQ : Hid (∀ (y32 y33 y34 y35 y36 y37 y38 y39 y40 y41 y42 y43 y44 y45 y46 y47 y48 y49 : Value) (wc : World), Below w7.heap.size w7 wc → Q .normal ⟨#[x0, x1, x2, x3, .pointer (some ⟨B1, 0, none⟩), .pointer (some ⟨B2, 0, none⟩), x6, x7, x8, x9, .slice aa la ca, .slice ab lb cb, .pointer (some ⟨P, 0, none⟩), .int .i64 0, x14, x15, x16, x17, x18, x19, x20, x21, x22, x23, x24, x25, x26, x27, x28, x29, x30, x31, y32, y33, y34, y35, y36, y37, y38, y39, y40, y41, y42, y43, y44, y45, y46, y47, y48, y49, .bool false, x51, x52, x53, x54, x55, x56, x57, x58, x59, x60, x61, x62, x63, x64, x65, x66, x67, x68, x69, x70, x71, x72, x73, x74, x75, x76, x77, x78, x79, x80, x81, x82, x83, x84, x85, x86, x87, x88, x89, x90, x91, x92, x93, x94], []⟩ wc)) :
    (Code.region 7
    #[{ dst := some 32, op := Op.move (Operand.tmp 13), type := 27, pos := "law.go:133", after := #[], guard := none },
    { dst := some 33, op := Op.binOp BinOp.neq 27 (Operand.tmp 32) (Operand.const (Value.int IntKind.i64 0)) 27, type := 4, pos := "law.go:133", after := #[{ on := 0, ground := Ground.data }], guard := none },
    { dst := some 34, op := Op.move (Operand.tmp 33), type := 4, pos := "law.go:133", after := #[{ on := 1, ground := Ground.data }], guard := none },
    { dst := some 35, op := Op.load 54 (Operand.tmp 12), type := 54, pos := "law.go:133", after := #[{ on := 2, ground := Ground.guard }], guard := some (2, false) },
    { dst := some 36, op := Op.load 54 (Operand.tmp 4), type := 54, pos := "law.go:133", after := #[{ on := 2, ground := Ground.guard }], guard := some (2, false) },
    { dst := some 37, op := Op.call { callee := Callee.value (Operand.func 25), args := #[Operand.tmp 35, Operand.tmp 36], argTypes := #[54, 54] }, type := 4, pos := "law.go:133", after := #[{ on := 3, ground := Ground.data }, { on := 4, ground := Ground.data }, { on := 2, ground := Ground.chain }, { on := 2, ground := Ground.guard }], guard := some (2, false) },
    { dst := some 38, op := Op.unOp UnOp.not 4 (Operand.tmp 37), type := 4, pos := "law.go:133", after := #[{ on := 5, ground := Ground.data }, { on := 2, ground := Ground.guard }], guard := some (2, false) },
    { dst := some 39, op := Op.pick (Operand.tmp 34) (Operand.const (Value.bool true)) (Operand.tmp 38), type := 4, pos := "law.go:133", after := #[{ on := 2, ground := Ground.data }, { on := 6, ground := Ground.data }], guard := none },
    { dst := some 40, op := Op.move (Operand.tmp 39), type := 4, pos := "law.go:133", after := #[{ on := 7, ground := Ground.data }, { on := 5, ground := Ground.chain }], guard := none },
    { dst := some 41, op := Op.move (Operand.tmp 10), type := 24, pos := "law.go:133", after := #[{ on := 8, ground := Ground.guard }], guard := some (8, false) },
    { dst := some 42, op := Op.convert 24 9 (Operand.tmp 41), type := 9, pos := "law.go:133", after := #[{ on := 9, ground := Ground.data }, { on := 8, ground := Ground.guard }], guard := some (8, false) },
    { dst := some 43, op := Op.move (Operand.tmp 11), type := 24, pos := "law.go:133", after := #[{ on := 8, ground := Ground.guard }], guard := some (8, false) },
    { dst := some 44, op := Op.convert 24 9 (Operand.tmp 43), type := 9, pos := "law.go:133", after := #[{ on := 11, ground := Ground.data }, { on := 8, ground := Ground.guard }], guard := some (8, false) },
    { dst := some 45, op := Op.binOp BinOp.eql 9 (Operand.tmp 42) (Operand.tmp 44) 9, type := 4, pos := "law.go:133", after := #[{ on := 10, ground := Ground.data }, { on := 12, ground := Ground.data }, { on := 8, ground := Ground.guard }], guard := some (8, false) },
    { dst := some 46, op := Op.load 54 (Operand.tmp 4), type := 54, pos := "law.go:133", after := #[{ on := 8, ground := Ground.guard }], guard := some (8, false) },
    { dst := some 47, op := Op.load 54 (Operand.tmp 5), type := 54, pos := "law.go:133", after := #[{ on := 8, ground := Ground.guard }], guard := some (8, false) },
    { dst := some 48, op := Op.call { callee := Callee.value (Operand.func 25), args := #[Operand.tmp 46, Operand.tmp 47], argTypes := #[54, 54] }, type := 4, pos := "law.go:133", after := #[{ on := 14, ground := Ground.data }, { on := 15, ground := Ground.data }, { on := 8, ground := Ground.chain }, { on := 8, ground := Ground.guard }], guard := some (8, false) },
    { dst := some 49, op := Op.binOp BinOp.neq 4 (Operand.tmp 45) (Operand.tmp 48) 4, type := 4, pos := "law.go:133", after := #[{ on := 13, ground := Ground.data }, { on := 16, ground := Ground.data }, { on := 8, ground := Ground.guard }], guard := some (8, false) },
    { dst := some 50, op := Op.pick (Operand.tmp 40) (Operand.const (Value.bool true)) (Operand.tmp 49), type := 4, pos := "law.go:133", after := #[{ on := 8, ground := Ground.data }, { on := 17, ground := Ground.data }], guard := none }] true).wp Try.prog (NoPanic Q) ⟨#[x0, x1, x2, x3, .pointer (some ⟨B1, 0, none⟩), .pointer (some ⟨B2, 0, none⟩), x6, x7, x8, x9, .slice aa la ca, .slice ab lb cb, .pointer (some ⟨P, 0, none⟩), .int .i64 0, x14, x15, x16, x17, x18, x19, x20, x21, x22, x23, x24, x25, x26, x27, x28, x29, x30, x31, x32, x33, x34, x35, x36, x37, x38, x39, x40, x41, x42, x43, x44, x45, x46, x47, x48, x49, x50, x51, x52, x53, x54, x55, x56, x57, x58, x59, x60, x61, x62, x63, x64, x65, x66, x67, x68, x69, x70, x71, x72, x73, x74, x75, x76, x77, x78, x79, x80, x81, x82, x83, x84, x85, x86, x87, x88, x89, x90, x91, x92, x93, x94], []⟩ w7 := by
  have d0 := HSS.out w7 (Below.refl _ _)
  have d1 := HSS.out w7.drew (Below.refl _ _).drew
  cases r
  all_goals
    have hbq := HBEQ.out
    go_region_held (fun u => S15 P (.int .i64 s1.kind) (.int .i64 s1.frm) (.int .i64 s1.dst) (.int .i64 s1.term) (.int .i64 s1.idx) (.int .i64 s1.lterm) (.int .i64 s1.commit) (.slice ke kle kce) (.bool s1.ok) (.int .i64 s1.hint) (.slice kc klc kcc) (.slice kd kld kcd) (.int .i64 s1.off) (.int .i64 s1.size) (.int .i64 s1.ctx) u ∧ (S15 B1 (.int .i64 s1.kind) (.int .i64 s1.frm) (.int .i64 s1.dst) (.int .i64 s1.term) (.int .i64 s1.idx) (.int .i64 s1.lterm) (.int .i64 s1.commit) (.slice ae1 le1 ce1) (.bool s1.ok) (.int .i64 s1.hint) (.slice ac1 lc1 cc1) (.slice ad1 ld1 cd1) (.int .i64 s1.off) (.int .i64 s1.size) (.int .i64 s1.ctx) u ∧ S15 B2 (.int .i64 t1.kind) (.int .i64 t1.frm) (.int .i64 t1.dst) (.int .i64 t1.term) (.int .i64 t1.idx) (.int .i64 t1.lterm) (.int .i64 t1.commit) (.slice be2 le2 ce2) (.bool t1.ok) (.int .i64 t1.hint) (.slice bc2 lc2 cc2) (.slice bd2 ld2 cd2) (.int .i64 t1.off) (.int .i64 t1.size) (.int .i64 t1.ctx) u) ∧ (convert 24 9 (.slice aa la ca)).run Try.prog u = .ok (.string Xa) u ∧ (convert 24 9 (.slice ab lb cb)).run Try.prog u = .ok (.string Xb) u) (first | with_reducible exact d0 | with_reducible exact d1 | with_reducible exact d2 | with_reducible exact d3)
      (first
        | (go_at_call 25; first
          | (have mm := HE3; (with_reducible refine Calls.mono HE3.out ?_); rintro e w9 ⟨rfl, HP9⟩; have d3 := HSS.out w9 HP9.out)
          | ((with_reducible refine Calls.mono HE1.out ?_); rintro e w8 ⟨rfl, HP8⟩; have d2 := HSS.out w8 HP8.out; have HE3 := hide (HE2.out w8 HP8.out))))
    refine NoPanic.normal ?_
    exact hQ.out _ _ _ _ _ _ _ _ _ _ _ _ _ _ _ _ _ _ _ HP9.out

end Go.Proofs.Ytgknpbgepgmmmaa.Cm
namespace Go.Proofs.Ytgknpbgepgmmmaa.Cm
open Go.RowKit Bn Kp

set_option maxRecDepth 8000 in
set_option maxHeartbeats 16000000 in
theorem msg_law {w : World} (s t : Mg) {ae ac ad be bc bd : Option Addr} {le ce lc cc ld cd me de mc dc md dd : Nat} (hs : MgV w ae le ce ac lc cc ad ld cd s) (ht : MgV w be me de bc mc dc bd md dd t) (hso : s.Ok) (hto : t.Ok) (hsd : s.data.length ≤ 9223372036854775807) (htd : t.data.length ≤ 9223372036854775807) (at_ : Int) (x : Int) (hx : 0 ≤ x ∧ x ≤ 255) :
    Calls Try.prog 5 #[.agg #[.int .i64 s.kind, .int .i64 s.frm, .int .i64 s.dst, .int .i64 s.term, .int .i64 s.idx, .int .i64 s.lterm, .int .i64 s.commit, .slice ae le ce, .bool s.ok, .int .i64 s.hint, .slice ac lc cc, .slice ad ld cd, .int .i64 s.off, .int .i64 s.size, .int .i64 s.ctx], .agg #[.int .i64 t.kind, .int .i64 t.frm, .int .i64 t.dst, .int .i64 t.term, .int .i64 t.idx, .int .i64 t.lterm, .int .i64 t.commit, .slice be me de, .bool t.ok, .int .i64 t.hint, .slice bc mc dc, .slice bd md dd, .int .i64 t.off, .int .i64 t.size, .int .i64 t.ctx], .int .i64 at_, .int .u8 x] w fun e w' => e = .returned (.bool true) ∧ Below w.heap.size w w' := by
  obtain ⟨W0, hW⟩ : ∃ W, Hid (W = (w.alloc (.cells #[.int .i64 s.kind, .int .i64 s.frm, .int .i64 s.dst, .int .i64 s.term, .int .i64 s.idx, .int .i64 s.lterm, .int .i64 s.commit, .slice ae le ce, .bool s.ok, .int .i64 s.hint, .slice ac lc cc, .slice ad ld cd, .int .i64 s.off, .int .i64 s.size, .int .i64 s.ctx] 54)).alloc (.cells #[.int .i64 t.kind, .int .i64 t.frm, .int .i64 t.dst, .int .i64 t.term, .int .i64 t.idx, .int .i64 t.lterm, .int .i64 t.commit, .slice be me de, .bool t.ok, .int .i64 t.hint, .slice bc mc dc, .slice bd md dd, .int .i64 t.off, .int .i64 t.size, .int .i64 t.ctx] 54)) := ⟨_, (rfl : _ = _)⟩
  have HB0 : Hid (Below w.heap.size w W0) := by rw [hW.out]; exact ((Below.refl _ w).alloc (Nat.le_refl _) _).alloc (by simp) _
  have HX1 : Hid (W0.heap[w.heap.size]? = some (.cells #[.int .i64 s.kind, .int .i64 s.frm, .int .i64 s.dst, .int .i64 s.term, .int .i64 s.idx, .int .i64 s.lterm, .int .i64 s.commit, .slice ae le ce, .bool s.ok, .int .i64 s.hint, .slice ac lc cc, .slice ad ld cd, .int .i64 s.off, .int .i64 s.size, .int .i64 s.ctx] 54 (0, 0))) := by
    rw [hW.out]
    exact (((Below.refl _ _).alloc (Nat.le_refl _) _).block w.heap.size (by simp)).trans (heap_alloc_new _ _)
  have HX2 : Hid (W0.heap[w.heap.size + 1]? = some (.cells #[.int .i64 t.kind, .int .i64 t.frm, .int .i64 t.dst, .int .i64 t.term, .int .i64 t.idx, .int .i64 t.lterm, .int .i64 t.commit, .slice be me de, .bool t.ok, .int .i64 t.hint, .slice bc mc dc, .slice bd md dd, .int .i64 t.off, .int .i64 t.size, .int .i64 t.ctx] 54 (0, 0))) := by rw [hW.out]; exact heap_alloc2_new _ _ _
  have HG := hide (begun_any W0)
  obtain ⟨s1, hs1⟩ : ∃ m, Hid (cutM s = m) := ⟨_, (rfl : _ = _)⟩
  obtain ⟨t1, ht1⟩ : ∃ m, Hid (cutM t = m) := ⟨_, (rfl : _ = _)⟩
  have HO1 : Hid (CutOk s1) := by rw [← hs1.out]; exact cutM_ok hso
  have HO2 : Hid (CutOk t1) := by rw [← ht1.out]; exact cutM_ok hto
  have HS1 : Hid (∀ W : World, Below w.heap.size w W → Calls Try.prog 22 #[.agg #[.int .i64 s.kind, .int .i64 s.frm, .int .i64 s.dst, .int .i64 s.term, .int .i64 s.idx, .int .i64 s.lterm, .int .i64 s.commit, .slice ae le ce, .bool s.ok, .int .i64 s.hint, .slice ac lc cc, .slice ad ld cd, .int .i64 s.off, .int .i64 s.size, .int .i64 s.ctx]] W fun e w' => ∃ ae1 le1 ce1 ac1 lc1 cc1 ad1 ld1 cd1, e = .returned (.agg #[.int .i64 s1.kind, .int .i64 s1.frm, .int .i64 s1.dst, .int .i64 s1.term, .int .i64 s1.idx, .int .i64 s1.lterm, .int .i64 s1.commit, .slice ae1 le1 ce1, .bool s1.ok, .int .i64 s1.hint, .slice ac1 lc1 cc1, .slice ad1 ld1 cd1, .int .i64 s1.off, .int .i64 s1.size, .int .i64 s1.ctx]) ∧ Hid (Ec W.heap.size w w' (.slice ae1 le1 ce1) s1.ents ∧ IsR w (.slice ac1 lc1 cc1) (cI s1.conf) ∧ Sl w (.slice ad1 ld1 cd1) s1.data ∧ Below W.heap.size W w')) := fun W hb => by
    rw [← hs1.out]
    exact cutMsg_any hb s hs (fun e he => (hso.ents e he).2.2.2) hsd
  have HT1 : Hid (∀ W : World, Below w.heap.size w W → Calls Try.prog 22 #[.agg #[.int .i64 t.kind, .int .i64 t.frm, .int .i64 t.dst, .int .i64 t.term, .int .i64 t.idx, .int .i64 t.lterm, .int .i64 t.commit, .slice be me de, .bool t.ok, .int .i64 t.hint, .slice bc mc dc, .slice bd md dd, .int .i64 t.off, .int .i64 t.size, .int .i64 t.ctx]] W fun e w' => ∃ be2 le2 ce2 bc2 lc2 cc2 bd2 ld2 cd2, e = .returned (.agg #[.int .i64 t1.kind, .int .i64 t1.frm, .int .i64 t1.dst, .int .i64 t1.term, .int .i64 t1.idx, .int .i64 t1.lterm, .int .i64 t1.commit, .slice be2 le2 ce2, .bool t1.ok, .int .i64 t1.hint, .slice bc2 lc2 cc2, .slice bd2 ld2 cd2, .int .i64 t1.off, .int .i64 t1.size, .int .i64 t1.ctx]) ∧ Hid (Ec W.heap.size w w' (.slice be2 le2 ce2) t1.ents ∧ IsR w (.slice bc2 lc2 cc2) (cI t1.conf) ∧ Sl w (.slice bd2 ld2 cd2) t1.data ∧ Below W.heap.size W w')) := fun W hb => by
    rw [← ht1.out]
    exact cutMsg_any hb t ht (fun e he => (hto.ents e he).2.2.2) htd
  clear hs ht hso hto hsd htd
  go_enter Try.func5, Try.ntmps5
  go_upto_region 1 with fail
  rw [← hW.out]
  go_wp2_with fail
  refine Calls.mono HG.out ?_
  rintro e w1 ⟨rfl, HB1⟩
  have hx1 := (HB1.out.block _ (lt_of_block HX1.out)).trans HX1.out
  have hx2 := (HB1.out.block _ (lt_of_block HX2.out)).trans HX2.out
  have HY1 := hide hx1
  have HY2 := hide hx2
  obtain ⟨a0, a1, a2, a3, a4, a5, a6, a7, a8, a9, a10, a11, a12, a13, a14⟩ := cells_Msg hx1
  obtain ⟨b0, b1, b2, b3, b4, b5, b6, b7, b8, b9, b10, b11, b12, b13, b14⟩ := cells_Msg hx2
  have HBw1 := hide (HB0.out.trans (HB1.out.mono HB0.out.size))
  have hsz1 : w.heap.size + 2 ≤ w1.heap.size := by have := lt_of_block hx2; omega
  clear HG HB1 hx1 hx2 HX1 HX2
  go_upto_region 4 with fail
  go_cut [] from 19 to 23 (fun wc => ∃ ae1 le1 ce1 ac1 lc1 cc1 ad1 ld1 cd1 be2 le2 ce2 bc2 lc2 cc2 bd2 ld2 cd2, wc.heap[w.heap.size]? = some (.cells #[.int .i64 s1.kind, .int .i64 s1.frm, .int .i64 s1.dst, .int .i64 s1.term, .int .i64 s1.idx, .int .i64 s1.lterm, .int .i64 s1.commit, .slice ae1 le1 ce1, .bool s1.ok, .int .i64 s1.hint, .slice ac1 lc1 cc1, .slice ad1 ld1 cd1, .int .i64 s1.off, .int .i64 s1.size, .int .i64 s1.ctx] 54 (0, 0)) ∧ wc.heap[w.heap.size + 1]? = some (.cells #[.int .i64 t1.kind, .int .i64 t1.frm, .int .i64 t1.dst, .int .i64 t1.term, .int .i64 t1.idx, .int .i64 t1.lterm, .int .i64 t1.commit, .slice be2 le2 ce2, .bool t1.ok, .int .i64 t1.hint, .slice bc2 lc2 cc2, .slice bd2 ld2 cd2, .int .i64 t1.off, .int .i64 t1.size, .int .i64 t1.ctx] 54 (0, 0)) ∧ Hid (Below w.heap.size w wc ∧ MgV wc ae1 le1 ce1 ac1 lc1 cc1 ad1 ld1 cd1 s1 ∧ MgV wc be2 le2 ce2 bc2 lc2 cc2 bd2 ld2 cd2 t1))
  case first =>
    refine wp_region_noPanic ?_
    refine msg_r4 HS1 HT1 HY1 HY2 HBw1 hsz1 ?_
    intro y19 y20 y21 y22 ae1 ac1 ad1 le1 ce1 lc1 cc1 ld1 cd1 be2 bc2 bd2 le2 ce2 lc2 cc2 ld2 cd2 wc g1 g2 g3
    go_wp2_with fail
    go_meet
    exact ⟨ae1, le1, ce1, ac1, lc1, cc1, ad1, ld1, cd1, be2, le2, ce2, bc2, lc2, cc2, bd2, ld2, cd2, g1, g2, g3⟩
  case rest =>
    obtain ⟨ae1, le1, ce1, ac1, lc1, cc1, ad1, ld1, cd1, be2, le2, ce2, bc2, lc2, cc2, bd2, ld2, cd2, h1, h2, HQ4⟩ := hcut
    clear a0 a1 a2 a3 a4 a5 a6 a7 a8 a9 a10 a11 a12 a13 a14 b0 b1 b2 b3 b4 b5 b6 b7 b8 b9 b10 b11 b12 b13 b14 HS1 HT1 HY1 HY2 HBw1 hsz1
    obtain ⟨w4, hw4⟩ : ∃ x, x = wc := ⟨_, rfl⟩
    subst hw4
    have H1 := hide h1
    have H2 := hide h2
    have HV1 := hide HQ4.out.2.1
    have HV2 := hide HQ4.out.2.2
    have HB4 := hide HQ4.out.1
    clear h1 h2 HQ4 hs1 ht1 hW HB0
    have HC1 : Hid (Calls Try.prog 23 #[.agg #[.int .i64 s1.kind, .int .i64 s1.frm, .int .i64 s1.dst, .int .i64 s1.term, .int .i64 s1.idx, .int .i64 s1.lterm, .int .i64 s1.commit, .slice ae1 le1 ce1, .bool s1.ok, .int .i64 s1.hint, .slice ac1 lc1 cc1, .slice ad1 ld1 cd1, .int .i64 s1.off, .int .i64 s1.size, .int .i64 s1.ctx]] w4.drew fun e w5 => ∃ ao L cap, e = .returned (.slice ao L cap) ∧ (w5.heap[w.heap.size]? = some (.cells #[.int .i64 s1.kind, .int .i64 s1.frm, .int .i64 s1.dst, .int .i64 s1.term, .int .i64 s1.idx, .int .i64 s1.lterm, .int .i64 s1.commit, .slice ae1 le1 ce1, .bool s1.ok, .int .i64 s1.hint, .slice ac1 lc1 cc1, .slice ad1 ld1 cd1, .int .i64 s1.off, .int .i64 s1.size, .int .i64 s1.ctx] 54 (0, 0)) ∧ w5.heap[w.heap.size + 1]? = some (.cells #[.int .i64 t1.kind, .int .i64 t1.frm, .int .i64 t1.dst, .int .i64 t1.term, .int .i64 t1.idx, .int .i64 t1.lterm, .int .i64 t1.commit, .slice be2 le2 ce2, .bool t1.ok, .int .i64 t1.hint, .slice bc2 lc2 cc2, .slice bd2 ld2 cd2, .int .i64 t1.off, .int .i64 t1.size, .int .i64 t1.ctx] 54 (0, 0))) ∧ Hid (Below w4.heap.size w4 w5 ∧ w5.ownsRow w4.heap.size 5 1 (.slice ao L cap) (encM s1).length (cells8 (encM s1)))) := by
      have hd := (Below.refl w4.heap.size w4).drew
      refine (mg_enc9 (HV1.out.below hd) HO1.out).mono ?_
      rintro e w5 ⟨ao, L, cap, rfl, hp⟩
      have hb := hd.trans hp.out.2
      exact ⟨ao, L, cap, rfl, ⟨(hb.block _ (lt_of_block H1.out)).trans H1.out, (hb.block _ (lt_of_block H2.out)).trans H2.out⟩, hb, hp.out.1⟩
    have HC2 : Hid (∀ w5 : World, Below w4.heap.size w4 w5 → Calls Try.prog 23 #[.agg #[.int .i64 t1.kind, .int .i64 t1.frm, .int .i64 t1.dst, .int .i64 t1.term, .int .i64 t1.idx, .int .i64 t1.lterm, .int .i64 t1.commit, .slice be2 le2 ce2, .bool t1.ok, .int .i64 t1.hint, .slice bc2 lc2 cc2, .slice bd2 ld2 cd2, .int .i64 t1.off, .int .i64 t1.size, .int .i64 t1.ctx]] w5 fun e w6 => ∃ ao L cap, e = .returned (.slice ao L cap) ∧ (w6.heap[w.heap.size]? = some (.cells #[.int .i64 s1.kind, .int .i64 s1.frm, .int .i64 s1.dst, .int .i64 s1.term, .int .i64 s1.idx, .int .i64 s1.lterm, .int .i64 s1.commit, .slice ae1 le1 ce1, .bool s1.ok, .int .i64 s1.hint, .slice ac1 lc1 cc1, .slice ad1 ld1 cd1, .int .i64 s1.off, .int .i64 s1.size, .int .i64 s1.ctx] 54 (0, 0)) ∧ w6.heap[w.heap.size + 1]? = some (.cells #[.int .i64 t1.kind, .int .i64 t1.frm, .int .i64 t1.dst, .int .i64 t1.term, .int .i64 t1.idx, .int .i64 t1.lterm, .int .i64 t1.commit, .slice be2 le2 ce2, .bool t1.ok, .int .i64 t1.hint, .slice bc2 lc2 cc2, .slice bd2 ld2 cd2, .int .i64 t1.off, .int .i64 t1.size, .int .i64 t1.ctx] 54 (0, 0))) ∧ Hid (Below w5.heap.size w5 w6 ∧ w6.ownsRow w5.heap.size 5 1 (.slice ao L cap) (encM t1).length (cells8 (encM t1)))) := fun w5 hb => by
      refine (mg_enc9 (HV2.out.below hb) HO2.out).mono ?_
      rintro e w6 ⟨ao, L, cap, rfl, hp⟩
      have hb6 := hb.trans (hp.out.2.mono hb.size)
      exact ⟨ao, L, cap, rfl, ⟨(hb6.block _ (lt_of_block H1.out)).trans H1.out, (hb6.block _ (lt_of_block H2.out)).trans H2.out⟩, hp.out.2, hp.out.1⟩
    go_upto_region 5 with fail
    go_cut [10, 11] from 23 to 27 (fun va vb wc => ∃ aa la ca ab lb cb, va = .slice aa la ca ∧ vb = .slice ab lb cb ∧ Hid (Below w4.heap.size w4 wc ∧ Sl wc (.slice aa la ca) (encM s1) ∧ Sl wc (.slice ab lb cb) (encM t1)))
    case first =>
      have d0 : S15 w.heap.size (.int .i64 s1.kind) (.int .i64 s1.frm) (.int .i64 s1.dst) (.int .i64 s1.term) (.int .i64 s1.idx) (.int .i64 s1.lterm) (.int .i64 s1.commit) (.slice ae1 le1 ce1) (.bool s1.ok) (.int .i64 s1.hint) (.slice ac1 lc1 cc1) (.slice ad1 ld1 cd1) (.int .i64 s1.off) (.int .i64 s1.size) (.int .i64 s1.ctx) w4 ∧ S15 (w.heap.size + 1) (.int .i64 t1.kind) (.int .i64 t1.frm) (.int .i64 t1.dst) (.int .i64 t1.term) (.int .i64 t1.idx) (.int .i64 t1.lterm) (.int .i64 t1.commit) (.slice be2 le2 ce2) (.bool t1.ok) (.int .i64 t1.hint) (.slice bc2 lc2 cc2) (.slice bd2 ld2 cd2) (.int .i64 t1.off) (.int .i64 t1.size) (.int .i64 t1.ctx) w4 := ⟨s15_of H1.out, s15_of H2.out⟩
      have d1 : S15 w.heap.size (.int .i64 s1.kind) (.int .i64 s1.frm) (.int .i64 s1.dst) (.int .i64 s1.term) (.int .i64 s1.idx) (.int .i64 s1.lterm) (.int .i64 s1.commit) (.slice ae1 le1 ce1) (.bool s1.ok) (.int .i64 s1.hint) (.slice ac1 lc1 cc1) (.slice ad1 ld1 cd1) (.int .i64 s1.off) (.int .i64 s1.size) (.int .i64 s1.ctx) w4.drew ∧ S15 (w.heap.size + 1) (.int .i64 t1.kind) (.int .i64 t1.frm) (.int .i64 t1.dst) (.int .i64 t1.term) (.int .i64 t1.idx) (.int .i64 t1.lterm) (.int .i64 t1.commit) (.slice be2 le2 ce2) (.bool t1.ok) (.int .i64 t1.hint) (.slice bc2 lc2 cc2) (.slice bd2 ld2 cd2) (.int .i64 t1.off) (.int .i64 t1.size) (.int .i64 t1.ctx) w4.drew := ⟨s15_of (W := w4.drew) H1.out, s15_of (W := w4.drew) H2.out⟩
      refine wp_region_noPanic ?_
      go_region_held (fun u => S15 w.heap.size (.int .i64 s1.kind) (.int .i64 s1.frm) (.int .i64 s1.dst) (.int .i64 s1.term) (.int .i64 s1.idx) (.int .i64 s1.lterm) (.int .i64 s1.commit) (.slice ae1 le1 ce1) (.bool s1.ok) (.int .i64 s1.hint) (.slice ac1 lc1 cc1) (.slice ad1 ld1 cd1) (.int .i64 s1.off) (.int .i64 s1.size) (.int .i64 s1.ctx) u ∧ S15 (w.heap.size + 1) (.int .i64 t1.kind) (.int .i64 t1.frm) (.int .i64 t1.dst) (.int .i64 t1.term) (.int .i64 t1.idx) (.int .i64 t1.lterm) (.int .i64 t1.commit) (.slice be2 le2 ce2) (.bool t1.ok) (.int .i64 t1.hint) (.slice bc2 lc2 cc2) (.slice bd2 ld2 cd2) (.int .i64 t1.off) (.int .i64 t1.size) (.int .i64 t1.ctx) u) (first | with_reducible exact d0 | with_reducible exact d1 | with_reducible exact d2 | with_reducible exact d3)
        (first
          | (go_at_call 23; first
            | (have mm := HC3; (with_reducible refine Calls.mono HC3.out ?_); rintro e w6 ⟨ab, lb, cb, rfl, g6, HP6⟩; have d3 : S15 w.heap.size (.int .i64 s1.kind) (.int .i64 s1.frm) (.int .i64 s1.dst) (.int .i64 s1.term) (.int .i64 s1.idx) (.int .i64 s1.lterm) (.int .i64 s1.commit) (.slice ae1 le1 ce1) (.bool s1.ok) (.int .i64 s1.hint) (.slice ac1 lc1 cc1) (.slice ad1 ld1 cd1) (.int .i64 s1.off) (.int .i64 s1.size) (.int .i64 s1.ctx) w6 ∧ S15 (w.heap.size + 1) (.int .i64 t1.kind) (.int .i64 t1.frm) (.int .i64 t1.dst) (.int .i64 t1.term) (.int .i64 t1.idx) (.int .i64 t1.lterm) (.int .i64 t1.commit) (.slice be2 le2 ce2) (.bool t1.ok) (.int .i64 t1.hint) (.slice bc2 lc2 cc2) (.slice bd2 ld2 cd2) (.int .i64 t1.off) (.int .i64 t1.size) (.int .i64 t1.ctx) w6 := ⟨s15_of g6.1, s15_of g6.2⟩)
            | ((with_reducible refine Calls.mono HC1.out ?_); rintro e w5 ⟨aa, la, ca, rfl, g5, HP5⟩; have d2 : S15 w.heap.size (.int .i64 s1.kind) (.int .i64 s1.frm) (.int .i64 s1.dst) (.int .i64 s1.term) (.int .i64 s1.idx) (.int .i64 s1.lterm) (.int .i64 s1.commit) (.slice ae1 le1 ce1) (.bool s1.ok) (.int .i64 s1.hint) (.slice ac1 lc1 cc1) (.slice ad1 ld1 cd1) (.int .i64 s1.off) (.int .i64 s1.size) (.int .i64 s1.ctx) w5 ∧ S15 (w.heap.size + 1) (.int .i64 t1.kind) (.int .i64 t1.frm) (.int .i64 t1.dst) (.int .i64 t1.term) (.int .i64 t1.idx) (.int .i64 t1.lterm) (.int .i64 t1.commit) (.slice be2 le2 ce2) (.bool t1.ok) (.int .i64 t1.hint) (.slice bc2 lc2 cc2) (.slice bd2 ld2 cd2) (.int .i64 t1.off) (.int .i64 t1.size) (.int .i64 t1.ctx) w5 := ⟨s15_of g5.1, s15_of g5.2⟩; have HC3 := hide (HC2.out w5 HP5.out.1))))
      all_goals refine NoPanic.normal ?_
      all_goals go_wp2_with fail
      all_goals go_meet
      all_goals exact ⟨aa, la, ca, ab, lb, cb, rfl, rfl, HP5.out.1.trans (HP6.out.1.mono HP5.out.1.size), (Sl.of_own HP5.out.2).below HP6.out.1, Sl.of_own HP6.out.2⟩
    case rest =>
      obtain ⟨aa, la, ca, ab, lb, cb, rfl, rfl, HQ⟩ := hcut
      clear HC1 HC2
      obtain ⟨w5, hw5⟩ : ∃ x, x = wc := ⟨_, rfl⟩
      subst hw5
      have HL1 : Hid ((encM s1).length ≤ 900000) := encM_len HO1.out
      have HR := hide (readMg_yes HQ.out.2.1 HL1.out (rMg_enc s1 HO1.out.ok (by have := HO1.out.ents; omega) (by have := HO1.out.conf; omega) (by have := HO1.out.data; omega)))
      go_wp2_with fail
      refine Calls.mono HR.out ?_
      rintro e w6 ⟨ke, kle, kce, kc, klc, kcc, kd, kld, kcd, rfl, HP6⟩
      clear HR
      obtain ⟨w7, hw7⟩ : ∃ x, Hid (x = w6.alloc (.cells #[.int .i64 s1.kind, .int .i64 s1.frm, .int .i64 s1.dst, .int .i64 s1.term, .int .i64 s1.idx, .int .i64 s1.lterm, .int .i64 s1.commit, .slice ke kle kce, .bool s1.ok, .int .i64 s1.hint, .slice kc klc kcc, .slice kd kld kcd, .int .i64 s1.off, .int .i64 s1.size, .int .i64 s1.ctx] 54)) := ⟨_, (rfl : _ = _)⟩
      have HB67 : Hid (Below w5.heap.size w5 w7) := by rw [hw7.out]; exact HP6.out.2.alloc HP6.out.2.size _
      have HK : Hid (w7.heap[w6.heap.size]? = some (.cells #[.int .i64 s1.kind, .int .i64 s1.frm, .int .i64 s1.dst, .int .i64 s1.term, .int .i64 s1.idx, .int .i64 s1.lterm, .int .i64 s1.commit, .slice ke kle kce, .bool s1.ok, .int .i64 s1.hint, .slice kc klc kcc, .slice kd kld kcd, .int .i64 s1.off, .int .i64 s1.size, .int .i64 s1.ctx] 54 (0, 0))) := by rw [hw7.out]; exact heap_alloc_new _ _
      have HKV : Hid (MgV w7 ke kle kce kc klc kcc kd kld kcd s1) := by rw [hw7.out]; exact HP6.out.1.below ((Below.refl _ _).alloc (Nat.le_refl _) _)
      have HB7 := hide (HQ.out.1.trans (HB67.out.mono HQ.out.1.size))
      have HA7 := hide (HQ.out.2.1.below HB67.out)
      have HBb7 := hide (HQ.out.2.2.below HB67.out)
      have G1 := hide ((HB7.out.block _ (lt_of_block H1.out)).trans H1.out)
      have G2 := hide ((HB7.out.block _ (lt_of_block H2.out)).trans H2.out)
      clear H1 H2 HP6 HB67 HQ
      go_upto_region 7 with fail
      rw [← hw7.out]
      obtain ⟨P, hP⟩ : ∃ P, Hid (w6.heap.size = P) := ⟨_, (rfl : _ = _)⟩
      rw [hP.out] at HK ⊢
      obtain ⟨r, hr⟩ : ∃ r, Hid (eqM s1 t1 = r) := ⟨_, (rfl : _ = _)⟩
      obtain ⟨Xa, hXa⟩ : ∃ X : ByteArray, Hid (⟨(encM s1).toArray⟩ = X) := ⟨_, (rfl : _ = _)⟩
      obtain ⟨Xb, hXb⟩ : ∃ X : ByteArray, Hid (⟨(encM t1).toArray⟩ = X) := ⟨_, (rfl : _ = _)⟩
      have hbeq : (Xa.toList == Xb.toList) = r := by rw [← hXa.out, ← hXb.out, beq_tx, encM_inj HO1.out HO2.out, hr.out]
      have HBEQ := hide hbeq
      have HSS : Hid (∀ u, Below w7.heap.size w7 u → S15 P (.int .i64 s1.kind) (.int .i64 s1.frm) (.int .i64 s1.dst) (.int .i64 s1.term) (.int .i64 s1.idx) (.int .i64 s1.lterm) (.int .i64 s1.commit) (.slice ke kle kce) (.bool s1.ok) (.int .i64 s1.hint) (.slice kc klc kcc) (.slice kd kld kcd) (.int .i64 s1.off) (.int .i64 s1.size) (.int .i64 s1.ctx) u ∧ (S15 w.heap.size (.int .i64 s1.kind) (.int .i64 s1.frm) (.int .i64 s1.dst) (.int .i64 s1.term) (.int .i64 s1.idx) (.int .i64 s1.lterm) (.int .i64 s1.commit) (.slice ae1 le1 ce1) (.bool s1.ok) (.int .i64 s1.hint) (.slice ac1 lc1 cc1) (.slice ad1 ld1 cd1) (.int .i64 s1.off) (.int .i64 s1.size) (.int .i64 s1.ctx) u ∧ S15 (w.heap.size + 1) (.int .i64 t1.kind) (.int .i64 t1.frm) (.int .i64 t1.dst) (.int .i64 t1.term) (.int .i64 t1.idx) (.int .i64 t1.lterm) (.int .i64 t1.commit) (.slice be2 le2 ce2) (.bool t1.ok) (.int .i64 t1.hint) (.slice bc2 lc2 cc2) (.slice bd2 ld2 cd2) (.int .i64 t1.off) (.int .i64 t1.size) (.int .i64 t1.ctx) u) ∧ (convert 24 9 (.slice aa la ca)).run Try.prog u = .ok (.string Xa) u ∧ (convert 24 9 (.slice ab lb cb)).run Try.prog u = .ok (.string Xb) u) := fun u hu =>
        ⟨s15_of ((hu.block _ (lt_of_block HK.out)).trans HK.out), ⟨s15_of ((hu.block _ (lt_of_block G1.out)).trans G1.out), s15_of ((hu.block _ (lt_of_block G2.out)).trans G2.out)⟩, conv_sl_any (HA7.out.below hu) hXa.out, conv_sl_any (HBb7.out.below hu) hXb.out⟩
      have HE1 : Hid (Calls Try.prog 25 #[.agg #[.int .i64 s1.kind, .int .i64 s1.frm, .int .i64 s1.dst, .int .i64 s1.term, .int .i64 s1.idx, .int .i64 s1.lterm, .int .i64 s1.commit, .slice ke kle kce, .bool s1.ok, .int .i64 s1.hint, .slice kc klc kcc, .slice kd kld kcd, .int .i64 s1.off, .int .i64 s1.size, .int .i64 s1.ctx], .agg #[.int .i64 s1.kind, .int .i64 s1.frm, .int .i64 s1.dst, .int .i64 s1.term, .int .i64 s1.idx, .int .i64 s1.lterm, .int .i64 s1.commit, .slice ae1 le1 ce1, .bool s1.ok, .int .i64 s1.hint, .slice ac1 lc1 cc1, .slice ad1 ld1 cd1, .int .i64 s1.off, .int .i64 s1.size, .int .i64 s1.ctx]] w7.drew fun e w8 => e = .returned (.bool true) ∧ Hid (Below w7.heap.size w7 w8)) := by
        have k1 := HKV.out.below (Below.refl w7.heap.size w7).drew
        have k2 := HV1.out.below HB7.out.drew
        refine (eqMsg_any s1 s1 k1.ents k1.conf k1.data k2.ents k2.conf k2.data).mono ?_
        rintro e w8 ⟨rfl, hp⟩
        exact ⟨by rw [(eqM_iff s1 s1).2 rfl], (Below.refl _ _).drew.trans hp.out⟩
      have HE2 : Hid (∀ w8 : World, Below w7.heap.size w7 w8 → Calls Try.prog 25 #[.agg #[.int .i64 s1.kind, .int .i64 s1.frm, .int .i64 s1.dst, .int .i64 s1.term, .int .i64 s1.idx, .int .i64 s1.lterm, .int .i64 s1.commit, .slice ae1 le1 ce1, .bool s1.ok, .int .i64 s1.hint, .slice ac1 lc1 cc1, .slice ad1 ld1 cd1, .int .i64 s1.off, .int .i64 s1.size, .int .i64 s1.ctx], .agg #[.int .i64 t1.kind, .int .i64 t1.frm, .int .i64 t1.dst, .int .i64 t1.term, .int .i64 t1.idx, .int .i64 t1.lterm, .int .i64 t1.commit, .slice be2 le2 ce2, .bool t1.ok, .int .i64 t1.hint, .slice bc2 lc2 cc2, .slice bd2 ld2 cd2, .int .i64 t1.off, .int .i64 t1.size, .int .i64 t1.ctx]] w8 fun e w9 => e = .returned (.bool r) ∧ Hid (Below w7.heap.size w7 w9)) := fun w8 h8 => by
        have hb8 := HB7.out.trans (h8.mono HB7.out.size)
        have k1 := HV1.out.below hb8
        have k2 := HV2.out.below hb8
        have h := eqMsg_any s1 t1 k1.ents k1.conf k1.data k2.ents k2.conf k2.data
        rw [hr.out] at h
        refine h.mono ?_
        rintro e w9 ⟨rfl, hp⟩
        exact ⟨rfl, h8.trans (hp.out.mono h8.size)⟩
      clear hbeq
      go_cut [50] from 32 to 51 (fun v wc => v = .bool false ∧ Hid (Below w4.heap.size w4 wc ∧ Sl wc (.slice aa la ca) (encM s1)))
      case first =>
        refine wp_region_noPanic ?_
        refine msg_r7 HBEQ HSS HE1 HE2 ?_
        intro y32 y33 y34 y35 y36 y37 y38 y39 y40 y41 y42 y43 y44 y45 y46 y47 y48 y49 wc HP9
        go_wp2_with fail
        go_meet
        exact ⟨rfl, HB7.out.trans (HP9.mono HB7.out.size), HA7.out.below HP9⟩
      case rest =>
        obtain ⟨rfl, HQ⟩ := hcut
        clear HBEQ HSS HE1 HE2 hXa hXb hr HK HKV HB7 HA7 HBb7 G1 G2 hP hw7 HV1 HV2 HO2
        obtain ⟨w8, hw8⟩ : ∃ x, x = wc := ⟨_, rfl⟩
        subst hw8
        obtain ⟨i, hi, hz0, hz1, hz2⟩ := info_parts Try.info5
        obtain ⟨bs, hbs⟩ : ∃ bs, Hid (encM s1 = bs) := ⟨_, (rfl : _ = _)⟩
        have hbl : 0 < bs.length ∧ bs.length ≤ 900000 := by rw [← hbs.out]; exact ⟨encM_pos s1, HL1.out⟩
        rw [hbs.out] at HQ
        go_upto_region 9 with fail
        go_upto_region 10 with (at_builtin; refine wpList_append_sl _ rfl _ (.tmp 51) 24 rfl w8.heap.size i Try.underlying24 hi hz0 hz1 hz2 (.slice none 0 0) (.slice aa la ca) [] bs rfl (World.ownsRow_nil _ _ _ _) rfl HQ.out.2 (by simp; omega) (Nat.le_refl _) ?_)
        intro yv w9 hown hgrow hat9
        have hb9 : Below w8.heap.size w8 w9 := ⟨hgrow.os, hgrow.tape, hgrow.output, hgrow.size, fun k hk => hgrow.block k hk (by simp [Value.ownBlock])⟩
        have HB9 := hide (HQ.out.1.trans (hb9.mono HQ.out.1.size))
        have HO9 := hide (own_low hown HQ.out.1.size)
        obtain ⟨g, cap, rfl, -, hcp, hgl⟩ : ∃ g cap, yv = .slice (some ⟨g, 0, none⟩) bs.length cap ∧ bs.length ≤ cap ∧ cap ≤ maxLen ∧ g < w9.heap.size := by
          rcases Kp.own_shape hown with ⟨_, h0⟩ | ⟨g, cap, h, h2, h3, h4⟩
          · omega
          · exact ⟨g, cap, h, h2, h3, h4⟩
        have hgw := own_ge HO9.out g rfl
        clear hown hgrow hat9 hb9
        have HGW := hide hgw
        obtain ⟨N, hN⟩ : ∃ N, Hid (bs.length = N) := ⟨_, (rfl : _ = _)⟩
        rw [hN.out] at hbl HO9 ⊢
        have hN0 : (0 : Int) < (N : Int) := by omega
        have hN1 : (N : Int) ≤ 900000 := by omega
        go_upto_region 10 with fail
        go_cut [59] from 53 to 60 (fun v wc => v = .bool (decide (0 ≤ at_)) ∧ Hid (wc.ownsRow w4.heap.size 5 1 (.slice (some ⟨g, 0, none⟩) N cap) N (cells8 bs) ∧ Below w4.heap.size w4 wc))
        case first =>
          by_cases ha : 0 ≤ at_
          · have e := hide (decide_eq_true ha)
            go_wp2_with fail
            go_meet
            refine ⟨?_, HO9.out, HB9.out⟩
            first | rw [e.out] | exact ha | (simp; omega)
          · have ha' : ¬ (0 : Int) ≤ at_ := ha
            have e := hide (decide_eq_false ha)
            go_wp2_with fail
            go_meet
            refine ⟨?_, HO9.out, HB9.out⟩
            first | rw [e.out] | exact ha | (simp; omega)
        case rest =>
          obtain ⟨rfl, HO10⟩ := hcut
          clear HO9 HB9
          obtain ⟨w10, hw10⟩ : ∃ x, x = wc := ⟨_, rfl⟩
          subst hw10
          go_upto_if 59 with fail
          go_cut [] from 59 to 70 (fun wc => ∃ ys : List UInt8, ys.length = N ∧ Hid (wc.ownsRow w4.heap.size 5 1 (.slice (some ⟨g, 0, none⟩) N cap) ys.length (cells8 ys) ∧ Below w4.heap.size w4 wc))
          case first =>
            by_cases ha : 0 ≤ at_
            · obtain ⟨k, hk, hkN⟩ : ∃ k : Nat, at_.tmod N = (k : Int) ∧ k < N := by
                rw [Int.tmod_eq_emod_of_nonneg ha]
                have h1 := Int.emod_nonneg at_ (show (N : Int) ≠ 0 by omega)
                have h2 := Int.emod_lt_of_pos at_ hN0
                exact ⟨(at_ % N).toNat, by omega, by omega⟩
              have hc := HO10.out.1.cellAt k (by omega)
              rw [cells8_at bs k (by rw [hN.out]; exact hkN)] at hc
              have hf := HO10.out.1.frozenAt k
              have hkI : (k : Int) < (N : Int) := by omega
              have hcI : (N : Int) ≤ 9223372036854775807 := by omega
              have hk0 : 0 ≤ at_.tmod N := by omega
              obtain ⟨y, hy⟩ := xor8 bs k x hx
              have HY := hide hy
              clear hy
              go_wp2_with fail
              go_meet
              rw [HY.out]
              have h9 := HO10.out.1
              rw [← hN.out] at h9
              refine ⟨bs.set k y, by rw [List.length_set]; exact hN.out, ?_, HO10.out.2.setCell (p := ⟨g, k, none⟩) HGW.out _⟩
              have h10 := own_put h9 (by rw [hN.out]; exact hkN) y
              rw [hN.out] at h10
              exact h10
            · have ha' : ¬ (0 : Int) ≤ at_ := ha
              go_wp2_with fail
              go_meet
              exact ⟨bs, hN.out, by rw [hN.out]; exact HO10.out.1, HO10.out.2⟩
          case rest =>
            obtain ⟨ys, hys, HO11⟩ := hcut
            have HYS := hide hys
            clear HO10 hys
            obtain ⟨w11, hw11⟩ : ∃ x, x = wc := ⟨_, rfl⟩
            subst hw11
            have HYL : Hid (ys.length ≤ 900000) := by show _ ≤ _; rw [HYS.out]; omega
            have HSY := hide (Sl.of_own HO11.out.1)
            have HB11 := hide (HB4.out.trans (HO11.out.2.mono HB4.out.size))
            clear HO11 hbl
            cases hok : okB (rMg (some ys)).1.2 (rMg (some ys)).2
            · have HR := hide (readMg_no HSY.out HYL.out hok)
              clear hok
              go_wp2_with fail
              refine Calls.mono HR.out ?_
              rintro e w12 ⟨rfl, HB12⟩
              have HBe := hide ((HB11.out.trans (HB12.out.mono HB11.out.size)))
              clear HR
              go_wp2_with fail
              go_ret
              exact ⟨rfl, HBe.out.alloc HBe.out.size _⟩
            · have HR := hide (readMg_ok HSY.out HYL.out hok)
              have HZO := hide (rMg_ok ys HYL.out hok)
              have HZB := hide (rMg_back ys hok)
              clear hok
              obtain ⟨z, hz⟩ : ∃ z, Hid ((rMg (some ys)).1.1 = z) := ⟨_, (rfl : _ = _)⟩
              rw [hz.out] at HR HZO HZB
              go_wp2_with fail
              refine Calls.mono HR.out ?_
              rintro e w12 ⟨ze, zle, zce, zc, zlc, zcc, zd, zld, zcd, rfl, HP12⟩
              clear HR
              obtain ⟨w13, hw13⟩ : ∃ x, Hid (x = w12.alloc (.cells #[.int .i64 z.kind, .int .i64 z.frm, .int .i64 z.dst, .int .i64 z.term, .int .i64 z.idx, .int .i64 z.lterm, .int .i64 z.commit, .slice ze zle zce, .bool z.ok, .int .i64 z.hint, .slice zc zlc zcc, .slice zd zld zcd, .int .i64 z.off, .int .i64 z.size, .int .i64 z.ctx] 54)) := ⟨_, (rfl : _ = _)⟩
              have HB13 : Hid (Below w11.heap.size w11 w13) := by rw [hw13.out]; exact HP12.out.2.alloc HP12.out.2.size _
              have HK13 : Hid (w13.heap[w12.heap.size]? = some (.cells #[.int .i64 z.kind, .int .i64 z.frm, .int .i64 z.dst, .int .i64 z.term, .int .i64 z.idx, .int .i64 z.lterm, .int .i64 z.commit, .slice ze zle zce, .bool z.ok, .int .i64 z.hint, .slice zc zlc zcc, .slice zd zld zcd, .int .i64 z.off, .int .i64 z.size, .int .i64 z.ctx] 54 (0, 0))) := by rw [hw13.out]; exact heap_alloc_new _ _
              have HV13 : Hid (MgV w13 ze zle zce zc zlc zcc zd zld zcd z) := by rw [hw13.out]; exact HP12.out.1.below ((Below.refl _ _).alloc (Nat.le_refl _) _)
              obtain ⟨Y, hY⟩ : ∃ X : ByteArray, Hid (⟨ys.toArray⟩ = X) := ⟨_, (rfl : _ = _)⟩
              have HCY : Hid (∀ u, Below w13.heap.size w13 u → (convert 24 9 (.slice (some ⟨g, 0, none⟩) N cap)).run Try.prog u = .ok (.string Y) u) := fun u hu => conv_sl_any ((HSY.out.below HB13.out).below hu) hY.out
              have HSN : Hid (Calls Try.prog 23 #[.agg #[.int .i64 z.kind, .int .i64 z.frm, .int .i64 z.dst, .int .i64 z.term, .int .i64 z.idx, .int .i64 z.lterm, .int .i64 z.commit, .slice ze zle zce, .bool z.ok, .int .i64 z.hint, .slice zc zlc zcc, .slice zd zld zcd, .int .i64 z.off, .int .i64 z.size, .int .i64 z.ctx]] w13.drew fun e w14 => ∃ ao L c, e = .returned (.slice ao L c) ∧ Hid ((convert 24 9 (.slice ao L c)).run Try.prog w14 = .ok (.string Y) w14 ∧ Below w13.heap.size w13 w14)) := by
                refine (mg_enc z (HV13.out.below (Below.refl _ _).drew) HZO.out.1 HZO.out.2.1 HZO.out.2.2.1 HZO.out.2.2.2.1).mono ?_
                rintro e w14 ⟨ao, L, c, rfl, hp⟩
                have hown := hp.out.1
                rw [HZB.out] at hown
                exact ⟨ao, L, c, rfl, conv_sl_any (Sl.of_own hown) hY.out, (Below.refl _ _).drew.trans hp.out.2⟩
              have HBe := hide (HB11.out.trans (HB13.out.mono HB11.out.size))
              have hyy : (Y.toList == Y.toList) = true := by simp
              clear HP12 HV13 HZO HZB HB13 HSY
              go_upto_region 15 with fail
              rw [← hw13.out]
              obtain ⟨Q, hQ⟩ : ∃ P, Hid (w12.heap.size = P) := ⟨_, (rfl : _ = _)⟩
              rw [hQ.out] at HK13 ⊢
              have HS13 : Hid (∀ u, Below w13.heap.size w13 u → S15 Q (.int .i64 z.kind) (.int .i64 z.frm) (.int .i64 z.dst) (.int .i64 z.term) (.int .i64 z.idx) (.int .i64 z.lterm) (.int .i64 z.commit) (.slice ze zle zce) (.bool z.ok) (.int .i64 z.hint) (.slice zc zlc zcc) (.slice zd zld zcd) (.int .i64 z.off) (.int .i64 z.size) (.int .i64 z.ctx) u ∧ (convert 24 9 (.slice (some ⟨g, 0, none⟩) N cap)).run Try.prog u = .ok (.string Y) u) := fun u hu =>
                ⟨s15_of ((hu.block _ (lt_of_block HK13.out)).trans HK13.out), HCY.out u hu⟩
              have d0 := HS13.out w13 (Below.refl _ _)
              have d1 := HS13.out w13.drew (Below.refl _ _).drew
              clear HCY HK13
              refine wp_region_noPanic ?_
              go_region_held (fun u => S15 Q (.int .i64 z.kind) (.int .i64 z.frm) (.int .i64 z.dst) (.int .i64 z.term) (.int .i64 z.idx) (.int .i64 z.lterm) (.int .i64 z.commit) (.slice ze zle zce) (.bool z.ok) (.int .i64 z.hint) (.slice zc zlc zcc) (.slice zd zld zcd) (.int .i64 z.off) (.int .i64 z.size) (.int .i64 z.ctx) u ∧ (convert 24 9 (.slice (some ⟨g, 0, none⟩) N cap)).run Try.prog u = .ok (.string Y) u) (first | with_reducible exact d0 | with_reducible exact d1 | with_reducible exact d2)
                (first
                  | (go_at_call 23; (with_reducible refine Calls.mono HSN.out ?_); rintro e w14 ⟨ao, L, c, rfl, HP14⟩; have hcv := HP14.out.1; have d2 := HS13.out w14 HP14.out.2))
              all_goals refine NoPanic.normal ?_
              all_goals go_wp2_with fail
              all_goals go_ret
              all_goals exact ⟨rfl, HBe.out.trans (HP14.out.2.mono HBe.out.size)⟩
end Go.Proofs.Ytgknpbgepgmmmaa.Cm

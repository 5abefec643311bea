/- EqMsg 25, part 0. EqMsg 25, part 1. EqMsg 25, part 2. EqMsg 25, part 3. EqMsg 25: two messages told apart. -/
import Derived.Test.YtgknpbgepgmmmaaPart11
namespace Go.Proofs.Ytgknpbgepgmmmaa.Cm
open Go.RowKit Bn Kp

set_option maxRecDepth 8000 in
set_option maxHeartbeats 8000000 in
theorem eqMsg_0 {w : World} (s t : Mg) {ae ac ad be bc bd : Option Addr} {le ce lc cc ld cd me de mc dc md dd : Nat} (hae : Es w (.slice ae le ce) s.ents) (hac : IsR w (.slice ac lc cc) (cI s.conf)) (had : Sl w (.slice ad ld cd) s.data) (hbe : Es w (.slice be me de) t.ents) (hbc : IsR w (.slice bc mc dc) (cI t.conf)) (hbd : Sl w (.slice bd md dd) t.data)  (c0 : ¬ s.kind = t.kind) :
    Calls Try.prog 25 #[.agg #[.int .i64 s.kind, .int .i64 s.frm, .int .i64 s.dst, .int .i64 s.term, .int .i64 s.idx, .int .i64 s.lterm, .int .i64 s.commit, .slice ae le ce, .bool s.ok, .int .i64 s.hint, .slice ac lc cc, .slice ad ld cd, .int .i64 s.off, .int .i64 s.size, .int .i64 s.ctx], .agg #[.int .i64 t.kind, .int .i64 t.frm, .int .i64 t.dst, .int .i64 t.term, .int .i64 t.idx, .int .i64 t.lterm, .int .i64 t.commit, .slice be me de, .bool t.ok, .int .i64 t.hint, .slice bc mc dc, .slice bd md dd, .int .i64 t.off, .int .i64 t.size, .int .i64 t.ctx]] w fun e w' => e = .returned (.bool (eqM s t)) ∧ Hid (Below w.heap.size w w') := by
  obtain ⟨W, hW⟩ : ∃ W, Hid (W = (w.alloc (.cells #[.int .i64 s.kind, .int .i64 s.frm, .int .i64 s.dst, .int .i64 s.term, .int .i64 s.idx, .int .i64 s.lterm, .int .i64 s.commit, .slice ae le ce, .bool s.ok, .int .i64 s.hint, .slice ac lc cc, .slice ad ld cd, .int .i64 s.off, .int .i64 s.size, .int .i64 s.ctx] 54)).alloc (.cells #[.int .i64 t.kind, .int .i64 t.frm, .int .i64 t.dst, .int .i64 t.term, .int .i64 t.idx, .int .i64 t.lterm, .int .i64 t.commit, .slice be me de, .bool t.ok, .int .i64 t.hint, .slice bc mc dc, .slice bd md dd, .int .i64 t.off, .int .i64 t.size, .int .i64 t.ctx] 54)) := ⟨_, (rfl : _ = _)⟩
  have HB : Hid (Below w.heap.size w W) := by rw [hW.out]; exact ((Below.refl _ w).alloc (Nat.le_refl _) _).alloc (by simp) _
  have h1 : W.heap[w.heap.size]? = some (.cells #[.int .i64 s.kind, .int .i64 s.frm, .int .i64 s.dst, .int .i64 s.term, .int .i64 s.idx, .int .i64 s.lterm, .int .i64 s.commit, .slice ae le ce, .bool s.ok, .int .i64 s.hint, .slice ac lc cc, .slice ad ld cd, .int .i64 s.off, .int .i64 s.size, .int .i64 s.ctx] 54 (0, 0)) := by
    rw [hW.out]
    exact (((Below.refl _ _).alloc (Nat.le_refl _) _).block w.heap.size (by simp)).trans (heap_alloc_new _ _)
  have h2 : W.heap[w.heap.size + 1]? = some (.cells #[.int .i64 t.kind, .int .i64 t.frm, .int .i64 t.dst, .int .i64 t.term, .int .i64 t.idx, .int .i64 t.lterm, .int .i64 t.commit, .slice be me de, .bool t.ok, .int .i64 t.hint, .slice bc mc dc, .slice bd md dd, .int .i64 t.off, .int .i64 t.size, .int .i64 t.ctx] 54 (0, 0)) := by rw [hW.out]; exact heap_alloc2_new _ _ _
  obtain ⟨x0, x1, x2, x3, x4, x5, x6, x7, x8, x9, x10, x11, x12, x13, x14⟩ := cells_Msg h1
  obtain ⟨y0, y1, y2, y3, y4, y5, y6, y7, y8, y9, y10, y11, y12, y13, y14⟩ := cells_Msg h2
  have H1 := hide h1
  have H2 := hide h2
  have HE : Hid (Calls Try.prog 57 #[.slice ae le ce, .slice be me de] W fun e w' => e = .returned (.bool (decide (s.ents = t.ents))) ∧ Hid (Below W.heap.size W w')) := eqEnts_any _ _ _ _ W (hae.below HB.out) (hbe.below HB.out)
  have HC : Hid (∀ u, Below W.heap.size W u → Calls Try.prog 58 #[.slice ac lc cc, .slice bc mc dc] u fun e w' => e = .returned (.bool (decide (s.conf = t.conf))) ∧ ∃ m, w' = u.drewN m) := fun u hu => eqInts_any _ _ _ _ u ((hac.below HB.out).below hu) ((hbc.below HB.out).below hu)
  obtain ⟨xa, hxa⟩ : ∃ x : ByteArray, Hid (⟨s.data.toArray⟩ = x) := ⟨_, (rfl : _ = _)⟩
  obtain ⟨xb, hxb⟩ : ∃ x : ByteArray, Hid (⟨t.data.toArray⟩ = x) := ⟨_, (rfl : _ = _)⟩
  have HA : Hid (∀ u, Below W.heap.size W u → (convert 24 9 (.slice ad ld cd)).run Try.prog u = .ok (.string xa) u) := fun u hu => conv_sl_any ((had.below HB.out).below hu) hxa.out
  have HBb : Hid (∀ u, Below W.heap.size W u → (convert 24 9 (.slice bd md dd)).run Try.prog u = .ok (.string xb) u) := fun u hu => conv_sl_any ((hbd.below HB.out).below hu) hxb.out
  have hbt := beq_tx s.data t.data
  rw [hxa.out, hxb.out] at hbt
  obtain ⟨res, hres⟩ : ∃ r, Hid (eqM s t = r) := ⟨_, (rfl : _ = _)⟩
  rw [hres.out]
  have hf : ∀ {p : Prop}, ¬ p → (s = t → p) → res = false := fun {p} hn hp => by
    rw [← hres.out, Bool.eq_false_iff]
    exact fun e => hn (hp ((eqM_iff s t).1 e))
  clear h1 h2 hae hac had hbe hbc hbd
  have e := hf c0 (fun h => by rw [h])
  subst e
  have g0 : (s.kind == t.kind) = false := by rw [beq_eq_false_iff_ne]; exact c0
  clear hf c0
  go_enter Try.func25, Try.ntmps25
  go_upto_region 1 with fail
  rw [← hW.out]
  go_wp2_with fail
  go_ret
  exact ⟨rfl, HB⟩

set_option maxRecDepth 8000 in
set_option maxHeartbeats 8000000 in
theorem eqMsg_1 {w : World} (s t : Mg) {ae ac ad be bc bd : Option Addr} {le ce lc cc ld cd me de mc dc md dd : Nat} (hae : Es w (.slice ae le ce) s.ents) (hac : IsR w (.slice ac lc cc) (cI s.conf)) (had : Sl w (.slice ad ld cd) s.data) (hbe : Es w (.slice be me de) t.ents) (hbc : IsR w (.slice bc mc dc) (cI t.conf)) (hbd : Sl w (.slice bd md dd) t.data) (c0 : s.kind = t.kind) (c1 : ¬ s.frm = t.frm) :
    Calls Try.prog 25 #[.agg #[.int .i64 s.kind, .int .i64 s.frm, .int .i64 s.dst, .int .i64 s.term, .int .i64 s.idx, .int .i64 s.lterm, .int .i64 s.commit, .slice ae le ce, .bool s.ok, .int .i64 s.hint, .slice ac lc cc, .slice ad ld cd, .int .i64 s.off, .int .i64 s.size, .int .i64 s.ctx], .agg #[.int .i64 t.kind, .int .i64 t.frm, .int .i64 t.dst, .int .i64 t.term, .int .i64 t.idx, .int .i64 t.lterm, .int .i64 t.commit, .slice be me de, .bool t.ok, .int .i64 t.hint, .slice bc mc dc, .slice bd md dd, .int .i64 t.off, .int .i64 t.size, .int .i64 t.ctx]] w fun e w' => e = .returned (.bool (eqM s t)) ∧ Hid (Below w.heap.size w w') := by
  obtain ⟨W, hW⟩ : ∃ W, Hid (W = (w.alloc (.cells #[.int .i64 s.kind, .int .i64 s.frm, .int .i64 s.dst, .int .i64 s.term, .int .i64 s.idx, .int .i64 s.lterm, .int .i64 s.commit, .slice ae le ce, .bool s.ok, .int .i64 s.hint, .slice ac lc cc, .slice ad ld cd, .int .i64 s.off, .int .i64 s.size, .int .i64 s.ctx] 54)).alloc (.cells #[.int .i64 t.kind, .int .i64 t.frm, .int .i64 t.dst, .int .i64 t.term, .int .i64 t.idx, .int .i64 t.lterm, .int .i64 t.commit, .slice be me de, .bool t.ok, .int .i64 t.hint, .slice bc mc dc, .slice bd md dd, .int .i64 t.off, .int .i64 t.size, .int .i64 t.ctx] 54)) := ⟨_, (rfl : _ = _)⟩
  have HB : Hid (Below w.heap.size w W) := by rw [hW.out]; exact ((Below.refl _ w).alloc (Nat.le_refl _) _).alloc (by simp) _
  have h1 : W.heap[w.heap.size]? = some (.cells #[.int .i64 s.kind, .int .i64 s.frm, .int .i64 s.dst, .int .i64 s.term, .int .i64 s.idx, .int .i64 s.lterm, .int .i64 s.commit, .slice ae le ce, .bool s.ok, .int .i64 s.hint, .slice ac lc cc, .slice ad ld cd, .int .i64 s.off, .int .i64 s.size, .int .i64 s.ctx] 54 (0, 0)) := by
    rw [hW.out]
    exact (((Below.refl _ _).alloc (Nat.le_refl _) _).block w.heap.size (by simp)).trans (heap_alloc_new _ _)
  have h2 : W.heap[w.heap.size + 1]? = some (.cells #[.int .i64 t.kind, .int .i64 t.frm, .int .i64 t.dst, .int .i64 t.term, .int .i64 t.idx, .int .i64 t.lterm, .int .i64 t.commit, .slice be me de, .bool t.ok, .int .i64 t.hint, .slice bc mc dc, .slice bd md dd, .int .i64 t.off, .int .i64 t.size, .int .i64 t.ctx] 54 (0, 0)) := by rw [hW.out]; exact heap_alloc2_new _ _ _
  obtain ⟨x0, x1, x2, x3, x4, x5, x6, x7, x8, x9, x10, x11, x12, x13, x14⟩ := cells_Msg h1
  obtain ⟨y0, y1, y2, y3, y4, y5, y6, y7, y8, y9, y10, y11, y12, y13, y14⟩ := cells_Msg h2
  have H1 := hide h1
  have H2 := hide h2
  have HE : Hid (Calls Try.prog 57 #[.slice ae le ce, .slice be me de] W fun e w' => e = .returned (.bool (decide (s.ents = t.ents))) ∧ Hid (Below W.heap.size W w')) := eqEnts_any _ _ _ _ W (hae.below HB.out) (hbe.below HB.out)
  have HC : Hid (∀ u, Below W.heap.size W u → Calls Try.prog 58 #[.slice ac lc cc, .slice bc mc dc] u fun e w' => e = .returned (.bool (decide (s.conf = t.conf))) ∧ ∃ m, w' = u.drewN m) := fun u hu => eqInts_any _ _ _ _ u ((hac.below HB.out).below hu) ((hbc.below HB.out).below hu)
  obtain ⟨xa, hxa⟩ : ∃ x : ByteArray, Hid (⟨s.data.toArray⟩ = x) := ⟨_, (rfl : _ = _)⟩
  obtain ⟨xb, hxb⟩ : ∃ x : ByteArray, Hid (⟨t.data.toArray⟩ = x) := ⟨_, (rfl : _ = _)⟩
  have HA : Hid (∀ u, Below W.heap.size W u → (convert 24 9 (.slice ad ld cd)).run Try.prog u = .ok (.string xa) u) := fun u hu => conv_sl_any ((had.below HB.out).below hu) hxa.out
  have HBb : Hid (∀ u, Below W.heap.size W u → (convert 24 9 (.slice bd md dd)).run Try.prog u = .ok (.string xb) u) := fun u hu => conv_sl_any ((hbd.below HB.out).below hu) hxb.out
  have hbt := beq_tx s.data t.data
  rw [hxa.out, hxb.out] at hbt
  obtain ⟨res, hres⟩ : ∃ r, Hid (eqM s t = r) := ⟨_, (rfl : _ = _)⟩
  rw [hres.out]
  have hf : ∀ {p : Prop}, ¬ p → (s = t → p) → res = false := fun {p} hn hp => by
    rw [← hres.out, Bool.eq_false_iff]
    exact fun e => hn (hp ((eqM_iff s t).1 e))
  clear h1 h2 hae hac had hbe hbc hbd
  have e := hf c1 (fun h => by rw [h])
  subst e
  have g0 : (s.kind == t.kind) = true := by rw [beq_iff_eq]; exact c0
  have g1 : (s.frm == t.frm) = false := by rw [beq_eq_false_iff_ne]; exact c1
  clear hf c0 c1
  go_enter Try.func25, Try.ntmps25
  go_upto_region 1 with fail
  rw [← hW.out]
  go_wp2_with fail
  go_ret
  exact ⟨rfl, HB⟩

set_option maxRecDepth 8000 in
set_option maxHeartbeats 8000000 in
theorem eqMsg_2 {w : World} (s t : Mg) {ae ac ad be bc bd : Option Addr} {le ce lc cc ld cd me de mc dc md dd : Nat} (hae : Es w (.slice ae le ce) s.ents) (hac : IsR w (.slice ac lc cc) (cI s.conf)) (had : Sl w (.slice ad ld cd) s.data) (hbe : Es w (.slice be me de) t.ents) (hbc : IsR w (.slice bc mc dc) (cI t.conf)) (hbd : Sl w (.slice bd md dd) t.data) (c0 : s.kind = t.kind) (c1 : s.frm = t.frm) (c2 : ¬ s.dst = t.dst) :
    Calls Try.prog 25 #[.agg #[.int .i64 s.kind, .int .i64 s.frm, .int .i64 s.dst, .int .i64 s.term, .int .i64 s.idx, .int .i64 s.lterm, .int .i64 s.commit, .slice ae le ce, .bool s.ok, .int .i64 s.hint, .slice ac lc cc, .slice ad ld cd, .int .i64 s.off, .int .i64 s.size, .int .i64 s.ctx], .agg #[.int .i64 t.kind, .int .i64 t.frm, .int .i64 t.dst, .int .i64 t.term, .int .i64 t.idx, .int .i64 t.lterm, .int .i64 t.commit, .slice be me de, .bool t.ok, .int .i64 t.hint, .slice bc mc dc, .slice bd md dd, .int .i64 t.off, .int .i64 t.size, .int .i64 t.ctx]] w fun e w' => e = .returned (.bool (eqM s t)) ∧ Hid (Below w.heap.size w w') := by
  obtain ⟨W, hW⟩ : ∃ W, Hid (W = (w.alloc (.cells #[.int .i64 s.kind, .int .i64 s.frm, .int .i64 s.dst, .int .i64 s.term, .int .i64 s.idx, .int .i64 s.lterm, .int .i64 s.commit, .slice ae le ce, .bool s.ok, .int .i64 s.hint, .slice ac lc cc, .slice ad ld cd, .int .i64 s.off, .int .i64 s.size, .int .i64 s.ctx] 54)).alloc (.cells #[.int .i64 t.kind, .int .i64 t.frm, .int .i64 t.dst, .int .i64 t.term, .int .i64 t.idx, .int .i64 t.lterm, .int .i64 t.commit, .slice be me de, .bool t.ok, .int .i64 t.hint, .slice bc mc dc, .slice bd md dd, .int .i64 t.off, .int .i64 t.size, .int .i64 t.ctx] 54)) := ⟨_, (rfl : _ = _)⟩
  have HB : Hid (Below w.heap.size w W) := by rw [hW.out]; exact ((Below.refl _ w).alloc (Nat.le_refl _) _).alloc (by simp) _
  have h1 : W.heap[w.heap.size]? = some (.cells #[.int .i64 s.kind, .int .i64 s.frm, .int .i64 s.dst, .int .i64 s.term, .int .i64 s.idx, .int .i64 s.lterm, .int .i64 s.commit, .slice ae le ce, .bool s.ok, .int .i64 s.hint, .slice ac lc cc, .slice ad ld cd, .int .i64 s.off, .int .i64 s.size, .int .i64 s.ctx] 54 (0, 0)) := by
    rw [hW.out]
    exact (((Below.refl _ _).alloc (Nat.le_refl _) _).block w.heap.size (by simp)).trans (heap_alloc_new _ _)
  have h2 : W.heap[w.heap.size + 1]? = some (.cells #[.int .i64 t.kind, .int .i64 t.frm, .int .i64 t.dst, .int .i64 t.term, .int .i64 t.idx, .int .i64 t.lterm, .int .i64 t.commit, .slice be me de, .bool t.ok, .int .i64 t.hint, .slice bc mc dc, .slice bd md dd, .int .i64 t.off, .int .i64 t.size, .int .i64 t.ctx] 54 (0, 0)) := by rw [hW.out]; exact heap_alloc2_new _ _ _
  obtain ⟨x0, x1, x2, x3, x4, x5, x6, x7, x8, x9, x10, x11, x12, x13, x14⟩ := cells_Msg h1
  obtain ⟨y0, y1, y2, y3, y4, y5, y6, y7, y8, y9, y10, y11, y12, y13, y14⟩ := cells_Msg h2
  have H1 := hide h1
  have H2 := hide h2
  have HE : Hid (Calls Try.prog 57 #[.slice ae le ce, .slice be me de] W fun e w' => e = .returned (.bool (decide (s.ents = t.ents))) ∧ Hid (Below W.heap.size W w')) := eqEnts_any _ _ _ _ W (hae.below HB.out) (hbe.below HB.out)
  have HC : Hid (∀ u, Below W.heap.size W u → Calls Try.prog 58 #[.slice ac lc cc, .slice bc mc dc] u fun e w' => e = .returned (.bool (decide (s.conf = t.conf))) ∧ ∃ m, w' = u.drewN m) := fun u hu => eqInts_any _ _ _ _ u ((hac.below HB.out).below hu) ((hbc.below HB.out).below hu)
  obtain ⟨xa, hxa⟩ : ∃ x : ByteArray, Hid (⟨s.data.toArray⟩ = x) := ⟨_, (rfl : _ = _)⟩
  obtain ⟨xb, hxb⟩ : ∃ x : ByteArray, Hid (⟨t.data.toArray⟩ = x) := ⟨_, (rfl : _ = _)⟩
  have HA : Hid (∀ u, Below W.heap.size W u → (convert 24 9 (.slice ad ld cd)).run Try.prog u = .ok (.string xa) u) := fun u hu => conv_sl_any ((had.below HB.out).below hu) hxa.out
  have HBb : Hid (∀ u, Below W.heap.size W u → (convert 24 9 (.slice bd md dd)).run Try.prog u = .ok (.string xb) u) := fun u hu => conv_sl_any ((hbd.below HB.out).below hu) hxb.out
  have hbt := beq_tx s.data t.data
  rw [hxa.out, hxb.out] at hbt
  obtain ⟨res, hres⟩ : ∃ r, Hid (eqM s t = r) := ⟨_, (rfl : _ = _)⟩
  rw [hres.out]
  have hf : ∀ {p : Prop}, ¬ p → (s = t → p) → res = false := fun {p} hn hp => by
    rw [← hres.out, Bool.eq_false_iff]
    exact fun e => hn (hp ((eqM_iff s t).1 e))
  clear h1 h2 hae hac had hbe hbc hbd
  have e := hf c2 (fun h => by rw [h])
  subst e
  have g0 : (s.kind == t.kind) = true := by rw [beq_iff_eq]; exact c0
  have g1 : (s.frm == t.frm) = true := by rw [beq_iff_eq]; exact c1
  have g2 : (s.dst == t.dst) = false := by rw [beq_eq_false_iff_ne]; exact c2
  clear hf c0 c1 c2
  go_enter Try.func25, Try.ntmps25
  go_upto_region 1 with fail
  rw [← hW.out]
  go_wp2_with fail
  go_ret
  exact ⟨rfl, HB⟩

set_option maxRecDepth 8000 in
set_option maxHeartbeats 8000000 in
theorem eqMsg_3 {w : World} (s t : Mg) {ae ac ad be bc bd : Option Addr} {le ce lc cc ld cd me de mc dc md dd : Nat} (hae : Es w (.slice ae le ce) s.ents) (hac : IsR w (.slice ac lc cc) (cI s.conf)) (had : Sl w (.slice ad ld cd) s.data) (hbe : Es w (.slice be me de) t.ents) (hbc : IsR w (.slice bc mc dc) (cI t.conf)) (hbd : Sl w (.slice bd md dd) t.data) (c0 : s.kind = t.kind) (c1 : s.frm = t.frm) (c2 : s.dst = t.dst) (c3 : ¬ s.term = t.term) :
    Calls Try.prog 25 #[.agg #[.int .i64 s.kind, .int .i64 s.frm, .int .i64 s.dst, .int .i64 s.term, .int .i64 s.idx, .int .i64 s.lterm, .int .i64 s.commit, .slice ae le ce, .bool s.ok, .int .i64 s.hint, .slice ac lc cc, .slice ad ld cd, .int .i64 s.off, .int .i64 s.size, .int .i64 s.ctx], .agg #[.int .i64 t.kind, .int .i64 t.frm, .int .i64 t.dst, .int .i64 t.term, .int .i64 t.idx, .int .i64 t.lterm, .int .i64 t.commit, .slice be me de, .bool t.ok, .int .i64 t.hint, .slice bc mc dc, .slice bd md dd, .int .i64 t.off, .int .i64 t.size, .int .i64 t.ctx]] w fun e w' => e = .returned (.bool (eqM s t)) ∧ Hid (Below w.heap.size w w') := by
  obtain ⟨W, hW⟩ : ∃ W, Hid (W = (w.alloc (.cells #[.int .i64 s.kind, .int .i64 s.frm, .int .i64 s.dst, .int .i64 s.term, .int .i64 s.idx, .int .i64 s.lterm, .int .i64 s.commit, .slice ae le ce, .bool s.ok, .int .i64 s.hint, .slice ac lc cc, .slice ad ld cd, .int .i64 s.off, .int .i64 s.size, .int .i64 s.ctx] 54)).alloc (.cells #[.int .i64 t.kind, .int .i64 t.frm, .int .i64 t.dst, .int .i64 t.term, .int .i64 t.idx, .int .i64 t.lterm, .int .i64 t.commit, .slice be me de, .bool t.ok, .int .i64 t.hint, .slice bc mc dc, .slice bd md dd, .int .i64 t.off, .int .i64 t.size, .int .i64 t.ctx] 54)) := ⟨_, (rfl : _ = _)⟩
  have HB : Hid (Below w.heap.size w W) := by rw [hW.out]; exact ((Below.refl _ w).alloc (Nat.le_refl _) _).alloc (by simp) _
  have h1 : W.heap[w.heap.size]? = some (.cells #[.int .i64 s.kind, .int .i64 s.frm, .int .i64 s.dst, .int .i64 s.term, .int .i64 s.idx, .int .i64 s.lterm, .int .i64 s.commit, .slice ae le ce, .bool s.ok, .int .i64 s.hint, .slice ac lc cc, .slice ad ld cd, .int .i64 s.off, .int .i64 s.size, .int .i64 s.ctx] 54 (0, 0)) := by
    rw [hW.out]
    exact (((Below.refl _ _).alloc (Nat.le_refl _) _).block w.heap.size (by simp)).trans (heap_alloc_new _ _)
  have h2 : W.heap[w.heap.size + 1]? = some (.cells #[.int .i64 t.kind, .int .i64 t.frm, .int .i64 t.dst, .int .i64 t.term, .int .i64 t.idx, .int .i64 t.lterm, .int .i64 t.commit, .slice be me de, .bool t.ok, .int .i64 t.hint, .slice bc mc dc, .slice bd md dd, .int .i64 t.off, .int .i64 t.size, .int .i64 t.ctx] 54 (0, 0)) := by rw [hW.out]; exact heap_alloc2_new _ _ _
  obtain ⟨x0, x1, x2, x3, x4, x5, x6, x7, x8, x9, x10, x11, x12, x13, x14⟩ := cells_Msg h1
  obtain ⟨y0, y1, y2, y3, y4, y5, y6, y7, y8, y9, y10, y11, y12, y13, y14⟩ := cells_Msg h2
  have H1 := hide h1
  have H2 := hide h2
  have HE : Hid (Calls Try.prog 57 #[.slice ae le ce, .slice be me de] W fun e w' => e = .returned (.bool (decide (s.ents = t.ents))) ∧ Hid (Below W.heap.size W w')) := eqEnts_any _ _ _ _ W (hae.below HB.out) (hbe.below HB.out)
  have HC : Hid (∀ u, Below W.heap.size W u → Calls Try.prog 58 #[.slice ac lc cc, .slice bc mc dc] u fun e w' => e = .returned (.bool (decide (s.conf = t.conf))) ∧ ∃ m, w' = u.drewN m) := fun u hu => eqInts_any _ _ _ _ u ((hac.below HB.out).below hu) ((hbc.below HB.out).below hu)
  obtain ⟨xa, hxa⟩ : ∃ x : ByteArray, Hid (⟨s.data.toArray⟩ = x) := ⟨_, (rfl : _ = _)⟩
  obtain ⟨xb, hxb⟩ : ∃ x : ByteArray, Hid (⟨t.data.toArray⟩ = x) := ⟨_, (rfl : _ = _)⟩
  have HA : Hid (∀ u, Below W.heap.size W u → (convert 24 9 (.slice ad ld cd)).run Try.prog u = .ok (.string xa) u) := fun u hu => conv_sl_any ((had.below HB.out).below hu) hxa.out
  have HBb : Hid (∀ u, Below W.heap.size W u → (convert 24 9 (.slice bd md dd)).run Try.prog u = .ok (.string xb) u) := fun u hu => conv_sl_any ((hbd.below HB.out).below hu) hxb.out
  have hbt := beq_tx s.data t.data
  rw [hxa.out, hxb.out] at hbt
  obtain ⟨res, hres⟩ : ∃ r, Hid (eqM s t = r) := ⟨_, (rfl : _ = _)⟩
  rw [hres.out]
  have hf : ∀ {p : Prop}, ¬ p → (s = t → p) → res = false := fun {p} hn hp => by
    rw [← hres.out, Bool.eq_false_iff]
    exact fun e => hn (hp ((eqM_iff s t).1 e))
  clear h1 h2 hae hac had hbe hbc hbd
  have e := hf c3 (fun h => by rw [h])
  subst e
  have g0 : (s.kind == t.kind) = true := by rw [beq_iff_eq]; exact c0
  have g1 : (s.frm == t.frm) = true := by rw [beq_iff_eq]; exact c1
  have g2 : (s.dst == t.dst) = true := by rw [beq_iff_eq]; exact c2
  have g3 : (s.term == t.term) = false := by rw [beq_eq_false_iff_ne]; exact c3
  clear hf c0 c1 c2 c3
  go_enter Try.func25, Try.ntmps25
  go_upto_region 1 with fail
  rw [← hW.out]
  go_wp2_with fail
  go_ret
  exact ⟨rfl, HB⟩

set_option maxRecDepth 8000 in
set_option maxHeartbeats 8000000 in
theorem eqMsg_4 {w : World} (s t : Mg) {ae ac ad be bc bd : Option Addr} {le ce lc cc ld cd me de mc dc md dd : Nat} (hae : Es w (.slice ae le ce) s.ents) (hac : IsR w (.slice ac lc cc) (cI s.conf)) (had : Sl w (.slice ad ld cd) s.data) (hbe : Es w (.slice be me de) t.ents) (hbc : IsR w (.slice bc mc dc) (cI t.conf)) (hbd : Sl w (.slice bd md dd) t.data) (c0 : s.kind = t.kind) (c1 : s.frm = t.frm) (c2 : s.dst = t.dst) (c3 : s.term = t.term) (c4 : ¬ s.idx = t.idx) :
    Calls Try.prog 25 #[.agg #[.int .i64 s.kind, .int .i64 s.frm, .int .i64 s.dst, .int .i64 s.term, .int .i64 s.idx, .int .i64 s.lterm, .int .i64 s.commit, .slice ae le ce, .bool s.ok, .int .i64 s.hint, .slice ac lc cc, .slice ad ld cd, .int .i64 s.off, .int .i64 s.size, .int .i64 s.ctx], .agg #[.int .i64 t.kind, .int .i64 t.frm, .int .i64 t.dst, .int .i64 t.term, .int .i64 t.idx, .int .i64 t.lterm, .int .i64 t.commit, .slice be me de, .bool t.ok, .int .i64 t.hint, .slice bc mc dc, .slice bd md dd, .int .i64 t.off, .int .i64 t.size, .int .i64 t.ctx]] w fun e w' => e = .returned (.bool (eqM s t)) ∧ Hid (Below w.heap.size w w') := by
  obtain ⟨W, hW⟩ : ∃ W, Hid (W = (w.alloc (.cells #[.int .i64 s.kind, .int .i64 s.frm, .int .i64 s.dst, .int .i64 s.term, .int .i64 s.idx, .int .i64 s.lterm, .int .i64 s.commit, .slice ae le ce, .bool s.ok, .int .i64 s.hint, .slice ac lc cc, .slice ad ld cd, .int .i64 s.off, .int .i64 s.size, .int .i64 s.ctx] 54)).alloc (.cells #[.int .i64 t.kind, .int .i64 t.frm, .int .i64 t.dst, .int .i64 t.term, .int .i64 t.idx, .int .i64 t.lterm, .int .i64 t.commit, .slice be me de, .bool t.ok, .int .i64 t.hint, .slice bc mc dc, .slice bd md dd, .int .i64 t.off, .int .i64 t.size, .int .i64 t.ctx] 54)) := ⟨_, (rfl : _ = _)⟩
  have HB : Hid (Below w.heap.size w W) := by rw [hW.out]; exact ((Below.refl _ w).alloc (Nat.le_refl _) _).alloc (by simp) _
  have h1 : W.heap[w.heap.size]? = some (.cells #[.int .i64 s.kind, .int .i64 s.frm, .int .i64 s.dst, .int .i64 s.term, .int .i64 s.idx, .int .i64 s.lterm, .int .i64 s.commit, .slice ae le ce, .bool s.ok, .int .i64 s.hint, .slice ac lc cc, .slice ad ld cd, .int .i64 s.off, .int .i64 s.size, .int .i64 s.ctx] 54 (0, 0)) := by
    rw [hW.out]
    exact (((Below.refl _ _).alloc (Nat.le_refl _) _).block w.heap.size (by simp)).trans (heap_alloc_new _ _)
  have h2 : W.heap[w.heap.size + 1]? = some (.cells #[.int .i64 t.kind, .int .i64 t.frm, .int .i64 t.dst, .int .i64 t.term, .int .i64 t.idx, .int .i64 t.lterm, .int .i64 t.commit, .slice be me de, .bool t.ok, .int .i64 t.hint, .slice bc mc dc, .slice bd md dd, .int .i64 t.off, .int .i64 t.size, .int .i64 t.ctx] 54 (0, 0)) := by rw [hW.out]; exact heap_alloc2_new _ _ _
  obtain ⟨x0, x1, x2, x3, x4, x5, x6, x7, x8, x9, x10, x11, x12, x13, x14⟩ := cells_Msg h1
  obtain ⟨y0, y1, y2, y3, y4, y5, y6, y7, y8, y9, y10, y11, y12, y13, y14⟩ := cells_Msg h2
  have H1 := hide h1
  have H2 := hide h2
  have HE : Hid (Calls Try.prog 57 #[.slice ae le ce, .slice be me de] W fun e w' => e = .returned (.bool (decide (s.ents = t.ents))) ∧ Hid (Below W.heap.size W w')) := eqEnts_any _ _ _ _ W (hae.below HB.out) (hbe.below HB.out)
  have HC : Hid (∀ u, Below W.heap.size W u → Calls Try.prog 58 #[.slice ac lc cc, .slice bc mc dc] u fun e w' => e = .returned (.bool (decide (s.conf = t.conf))) ∧ ∃ m, w' = u.drewN m) := fun u hu => eqInts_any _ _ _ _ u ((hac.below HB.out).below hu) ((hbc.below HB.out).below hu)
  obtain ⟨xa, hxa⟩ : ∃ x : ByteArray, Hid (⟨s.data.toArray⟩ = x) := ⟨_, (rfl : _ = _)⟩
  obtain ⟨xb, hxb⟩ : ∃ x : ByteArray, Hid (⟨t.data.toArray⟩ = x) := ⟨_, (rfl : _ = _)⟩
  have HA : Hid (∀ u, Below W.heap.size W u → (convert 24 9 (.slice ad ld cd)).run Try.prog u = .ok (.string xa) u) := fun u hu => conv_sl_any ((had.below HB.out).below hu) hxa.out
  have HBb : Hid (∀ u, Below W.heap.size W u → (convert 24 9 (.slice bd md dd)).run Try.prog u = .ok (.string xb) u) := fun u hu => conv_sl_any ((hbd.below HB.out).below hu) hxb.out
  have hbt := beq_tx s.data t.data
  rw [hxa.out, hxb.out] at hbt
  obtain ⟨res, hres⟩ : ∃ r, Hid (eqM s t = r) := ⟨_, (rfl : _ = _)⟩
  rw [hres.out]
  have hf : ∀ {p : Prop}, ¬ p → (s = t → p) → res = false := fun {p} hn hp => by
    rw [← hres.out, Bool.eq_false_iff]
    exact fun e => hn (hp ((eqM_iff s t).1 e))
  clear h1 h2 hae hac had hbe hbc hbd
  have e := hf c4 (fun h => by rw [h])
  subst e
  have g0 : (s.kind == t.kind) = true := by rw [beq_iff_eq]; exact c0
  have g1 : (s.frm == t.frm) = true := by rw [beq_iff_eq]; exact c1
  have g2 : (s.dst == t.dst) = true := by rw [beq_iff_eq]; exact c2
  have g3 : (s.term == t.term) = true := by rw [beq_iff_eq]; exact c3
  have g4 : (s.idx == t.idx) = false := by rw [beq_eq_false_iff_ne]; exact c4
  clear hf c0 c1 c2 c3 c4
  go_enter Try.func25, Try.ntmps25
  go_upto_region 1 with fail
  rw [← hW.out]
  go_wp2_with fail
  go_ret
  exact ⟨rfl, HB⟩

set_option maxRecDepth 8000 in
set_option maxHeartbeats 8000000 in
theorem eqMsg_5 {w : World} (s t : Mg) {ae ac ad be bc bd : Option Addr} {le ce lc cc ld cd me de mc dc md dd : Nat} (hae : Es w (.slice ae le ce) s.ents) (hac : IsR w (.slice ac lc cc) (cI s.conf)) (had : Sl w (.slice ad ld cd) s.data) (hbe : Es w (.slice be me de) t.ents) (hbc : IsR w (.slice bc mc dc) (cI t.conf)) (hbd : Sl w (.slice bd md dd) t.data) (c0 : s.kind = t.kind) (c1 : s.frm = t.frm) (c2 : s.dst = t.dst) (c3 : s.term = t.term) (c4 : s.idx = t.idx) (c5 : ¬ s.lterm = t.lterm) :
    Calls Try.prog 25 #[.agg #[.int .i64 s.kind, .int .i64 s.frm, .int .i64 s.dst, .int .i64 s.term, .int .i64 s.idx, .int .i64 s.lterm, .int .i64 s.commit, .slice ae le ce, .bool s.ok, .int .i64 s.hint, .slice ac lc cc, .slice ad ld cd, .int .i64 s.off, .int .i64 s.size, .int .i64 s.ctx], .agg #[.int .i64 t.kind, .int .i64 t.frm, .int .i64 t.dst, .int .i64 t.term, .int .i64 t.idx, .int .i64 t.lterm, .int .i64 t.commit, .slice be me de, .bool t.ok, .int .i64 t.hint, .slice bc mc dc, .slice bd md dd, .int .i64 t.off, .int .i64 t.size, .int .i64 t.ctx]] w fun e w' => e = .returned (.bool (eqM s t)) ∧ Hid (Below w.heap.size w w') := by
  obtain ⟨W, hW⟩ : ∃ W, Hid (W = (w.alloc (.cells #[.int .i64 s.kind, .int .i64 s.frm, .int .i64 s.dst, .int .i64 s.term, .int .i64 s.idx, .int .i64 s.lterm, .int .i64 s.commit, .slice ae le ce, .bool s.ok, .int .i64 s.hint, .slice ac lc cc, .slice ad ld cd, .int .i64 s.off, .int .i64 s.size, .int .i64 s.ctx] 54)).alloc (.cells #[.int .i64 t.kind, .int .i64 t.frm, .int .i64 t.dst, .int .i64 t.term, .int .i64 t.idx, .int .i64 t.lterm, .int .i64 t.commit, .slice be me de, .bool t.ok, .int .i64 t.hint, .slice bc mc dc, .slice bd md dd, .int .i64 t.off, .int .i64 t.size, .int .i64 t.ctx] 54)) := ⟨_, (rfl : _ = _)⟩
  have HB : Hid (Below w.heap.size w W) := by rw [hW.out]; exact ((Below.refl _ w).alloc (Nat.le_refl _) _).alloc (by simp) _
  have h1 : W.heap[w.heap.size]? = some (.cells #[.int .i64 s.kind, .int .i64 s.frm, .int .i64 s.dst, .int .i64 s.term, .int .i64 s.idx, .int .i64 s.lterm, .int .i64 s.commit, .slice ae le ce, .bool s.ok, .int .i64 s.hint, .slice ac lc cc, .slice ad ld cd, .int .i64 s.off, .int .i64 s.size, .int .i64 s.ctx] 54 (0, 0)) := by
    rw [hW.out]
    exact (((Below.refl _ _).alloc (Nat.le_refl _) _).block w.heap.size (by simp)).trans (heap_alloc_new _ _)
  have h2 : W.heap[w.heap.size + 1]? = some (.cells #[.int .i64 t.kind, .int .i64 t.frm, .int .i64 t.dst, .int .i64 t.term, .int .i64 t.idx, .int .i64 t.lterm, .int .i64 t.commit, .slice be me de, .bool t.ok, .int .i64 t.hint, .slice bc mc dc, .slice bd md dd, .int .i64 t.off, .int .i64 t.size, .int .i64 t.ctx] 54 (0, 0)) := by rw [hW.out]; exact heap_alloc2_new _ _ _
  obtain ⟨x0, x1, x2, x3, x4, x5, x6, x7, x8, x9, x10, x11, x12, x13, x14⟩ := cells_Msg h1
  obtain ⟨y0, y1, y2, y3, y4, y5, y6, y7, y8, y9, y10, y11, y12, y13, y14⟩ := cells_Msg h2
  have H1 := hide h1
  have H2 := hide h2
  have HE : Hid (Calls Try.prog 57 #[.slice ae le ce, .slice be me de] W fun e w' => e = .returned (.bool (decide (s.ents = t.ents))) ∧ Hid (Below W.heap.size W w')) := eqEnts_any _ _ _ _ W (hae.below HB.out) (hbe.below HB.out)
  have HC : Hid (∀ u, Below W.heap.size W u → Calls Try.prog 58 #[.slice ac lc cc, .slice bc mc dc] u fun e w' => e = .returned (.bool (decide (s.conf = t.conf))) ∧ ∃ m, w' = u.drewN m) := fun u hu => eqInts_any _ _ _ _ u ((hac.below HB.out).below hu) ((hbc.below HB.out).below hu)
  obtain ⟨xa, hxa⟩ : ∃ x : ByteArray, Hid (⟨s.data.toArray⟩ = x) := ⟨_, (rfl : _ = _)⟩
  obtain ⟨xb, hxb⟩ : ∃ x : ByteArray, Hid (⟨t.data.toArray⟩ = x) := ⟨_, (rfl : _ = _)⟩
  have HA : Hid (∀ u, Below W.heap.size W u → (convert 24 9 (.slice ad ld cd)).run Try.prog u = .ok (.string xa) u) := fun u hu => conv_sl_any ((had.below HB.out).below hu) hxa.out
  have HBb : Hid (∀ u, Below W.heap.size W u → (convert 24 9 (.slice bd md dd)).run Try.prog u = .ok (.string xb) u) := fun u hu => conv_sl_any ((hbd.below HB.out).below hu) hxb.out
  have hbt := beq_tx s.data t.data
  rw [hxa.out, hxb.out] at hbt
  obtain ⟨res, hres⟩ : ∃ r, Hid (eqM s t = r) := ⟨_, (rfl : _ = _)⟩
  rw [hres.out]
  have hf : ∀ {p : Prop}, ¬ p → (s = t → p) → res = false := fun {p} hn hp => by
    rw [← hres.out, Bool.eq_false_iff]
    exact fun e => hn (hp ((eqM_iff s t).1 e))
  clear h1 h2 hae hac had hbe hbc hbd
  have e := hf c5 (fun h => by rw [h])
  subst e
  have g0 : (s.kind == t.kind) = true := by rw [beq_iff_eq]; exact c0
  have g1 : (s.frm == t.frm) = true := by rw [beq_iff_eq]; exact c1
  have g2 : (s.dst == t.dst) = true := by rw [beq_iff_eq]; exact c2
  have g3 : (s.term == t.term) = true := by rw [beq_iff_eq]; exact c3
  have g4 : (s.idx == t.idx) = true := by rw [beq_iff_eq]; exact c4
  have g5 : (s.lterm == t.lterm) = false := by rw [beq_eq_false_iff_ne]; exact c5
  clear hf c0 c1 c2 c3 c4 c5
  go_enter Try.func25, Try.ntmps25
  go_upto_region 1 with fail
  rw [← hW.out]
  go_wp2_with fail
  go_ret
  exact ⟨rfl, HB⟩

set_option maxRecDepth 8000 in
set_option maxHeartbeats 8000000 in
theorem eqMsg_6 {w : World} (s t : Mg) {ae ac ad be bc bd : Option Addr} {le ce lc cc ld cd me de mc dc md dd : Nat} (hae : Es w (.slice ae le ce) s.ents) (hac : IsR w (.slice ac lc cc) (cI s.conf)) (had : Sl w (.slice ad ld cd) s.data) (hbe : Es w (.slice be me de) t.ents) (hbc : IsR w (.slice bc mc dc) (cI t.conf)) (hbd : Sl w (.slice bd md dd) t.data) (c0 : s.kind = t.kind) (c1 : s.frm = t.frm) (c2 : s.dst = t.dst) (c3 : s.term = t.term) (c4 : s.idx = t.idx) (c5 : s.lterm = t.lterm) (c6 : ¬ s.commit = t.commit) :
    Calls Try.prog 25 #[.agg #[.int .i64 s.kind, .int .i64 s.frm, .int .i64 s.dst, .int .i64 s.term, .int .i64 s.idx, .int .i64 s.lterm, .int .i64 s.commit, .slice ae le ce, .bool s.ok, .int .i64 s.hint, .slice ac lc cc, .slice ad ld cd, .int .i64 s.off, .int .i64 s.size, .int .i64 s.ctx], .agg #[.int .i64 t.kind, .int .i64 t.frm, .int .i64 t.dst, .int .i64 t.term, .int .i64 t.idx, .int .i64 t.lterm, .int .i64 t.commit, .slice be me de, .bool t.ok, .int .i64 t.hint, .slice bc mc dc, .slice bd md dd, .int .i64 t.off, .int .i64 t.size, .int .i64 t.ctx]] w fun e w' => e = .returned (.bool (eqM s t)) ∧ Hid (Below w.heap.size w w') := by
  obtain ⟨W, hW⟩ : ∃ W, Hid (W = (w.alloc (.cells #[.int .i64 s.kind, .int .i64 s.frm, .int .i64 s.dst, .int .i64 s.term, .int .i64 s.idx, .int .i64 s.lterm, .int .i64 s.commit, .slice ae le ce, .bool s.ok, .int .i64 s.hint, .slice ac lc cc, .slice ad ld cd, .int .i64 s.off, .int .i64 s.size, .int .i64 s.ctx] 54)).alloc (.cells #[.int .i64 t.kind, .int .i64 t.frm, .int .i64 t.dst, .int .i64 t.term, .int .i64 t.idx, .int .i64 t.lterm, .int .i64 t.commit, .slice be me de, .bool t.ok, .int .i64 t.hint, .slice bc mc dc, .slice bd md dd, .int .i64 t.off, .int .i64 t.size, .int .i64 t.ctx] 54)) := ⟨_, (rfl : _ = _)⟩
  have HB : Hid (Below w.heap.size w W) := by rw [hW.out]; exact ((Below.refl _ w).alloc (Nat.le_refl _) _).alloc (by simp) _
  have h1 : W.heap[w.heap.size]? = some (.cells #[.int .i64 s.kind, .int .i64 s.frm, .int .i64 s.dst, .int .i64 s.term, .int .i64 s.idx, .int .i64 s.lterm, .int .i64 s.commit, .slice ae le ce, .bool s.ok, .int .i64 s.hint, .slice ac lc cc, .slice ad ld cd, .int .i64 s.off, .int .i64 s.size, .int .i64 s.ctx] 54 (0, 0)) := by
    rw [hW.out]
    exact (((Below.refl _ _).alloc (Nat.le_refl _) _).block w.heap.size (by simp)).trans (heap_alloc_new _ _)
  have h2 : W.heap[w.heap.size + 1]? = some (.cells #[.int .i64 t.kind, .int .i64 t.frm, .int .i64 t.dst, .int .i64 t.term, .int .i64 t.idx, .int .i64 t.lterm, .int .i64 t.commit, .slice be me de, .bool t.ok, .int .i64 t.hint, .slice bc mc dc, .slice bd md dd, .int .i64 t.off, .int .i64 t.size, .int .i64 t.ctx] 54 (0, 0)) := by rw [hW.out]; exact heap_alloc2_new _ _ _
  obtain ⟨x0, x1, x2, x3, x4, x5, x6, x7, x8, x9, x10, x11, x12, x13, x14⟩ := cells_Msg h1
  obtain ⟨y0, y1, y2, y3, y4, y5, y6, y7, y8, y9, y10, y11, y12, y13, y14⟩ := cells_Msg h2
  have H1 := hide h1
  have H2 := hide h2
  have HE : Hid (Calls Try.prog 57 #[.slice ae le ce, .slice be me de] W fun e w' => e = .returned (.bool (decide (s.ents = t.ents))) ∧ Hid (Below W.heap.size W w')) := eqEnts_any _ _ _ _ W (hae.below HB.out) (hbe.below HB.out)
  have HC : Hid (∀ u, Below W.heap.size W u → Calls Try.prog 58 #[.slice ac lc cc, .slice bc mc dc] u fun e w' => e = .returned (.bool (decide (s.conf = t.conf))) ∧ ∃ m, w' = u.drewN m) := fun u hu => eqInts_any _ _ _ _ u ((hac.below HB.out).below hu) ((hbc.below HB.out).below hu)
  obtain ⟨xa, hxa⟩ : ∃ x : ByteArray, Hid (⟨s.data.toArray⟩ = x) := ⟨_, (rfl : _ = _)⟩
  obtain ⟨xb, hxb⟩ : ∃ x : ByteArray, Hid (⟨t.data.toArray⟩ = x) := ⟨_, (rfl : _ = _)⟩
  have HA : Hid (∀ u, Below W.heap.size W u → (convert 24 9 (.slice ad ld cd)).run Try.prog u = .ok (.string xa) u) := fun u hu => conv_sl_any ((had.below HB.out).below hu) hxa.out
  have HBb : Hid (∀ u, Below W.heap.size W u → (convert 24 9 (.slice bd md dd)).run Try.prog u = .ok (.string xb) u) := fun u hu => conv_sl_any ((hbd.below HB.out).below hu) hxb.out
  have hbt := beq_tx s.data t.data
  rw [hxa.out, hxb.out] at hbt
  obtain ⟨res, hres⟩ : ∃ r, Hid (eqM s t = r) := ⟨_, (rfl : _ = _)⟩
  rw [hres.out]
  have hf : ∀ {p : Prop}, ¬ p → (s = t → p) → res = false := fun {p} hn hp => by
    rw [← hres.out, Bool.eq_false_iff]
    exact fun e => hn (hp ((eqM_iff s t).1 e))
  clear h1 h2 hae hac had hbe hbc hbd
  have e := hf c6 (fun h => by rw [h])
  subst e
  have g0 : (s.kind == t.kind) = true := by rw [beq_iff_eq]; exact c0
  have g1 : (s.frm == t.frm) = true := by rw [beq_iff_eq]; exact c1
  have g2 : (s.dst == t.dst) = true := by rw [beq_iff_eq]; exact c2
  have g3 : (s.term == t.term) = true := by rw [beq_iff_eq]; exact c3
  have g4 : (s.idx == t.idx) = true := by rw [beq_iff_eq]; exact c4
  have g5 : (s.lterm == t.lterm) = true := by rw [beq_iff_eq]; exact c5
  have g6 : (s.commit == t.commit) = false := by rw [beq_eq_false_iff_ne]; exact c6
  clear hf c0 c1 c2 c3 c4 c5 c6
  go_enter Try.func25, Try.ntmps25
  go_upto_region 1 with fail
  rw [← hW.out]
  go_wp2_with fail
  go_ret
  exact ⟨rfl, HB⟩

end Go.Proofs.Ytgknpbgepgmmmaa.Cm
namespace Go.Proofs.Ytgknpbgepgmmmaa.Cm
open Go.RowKit Bn Kp

set_option maxRecDepth 8000 in
set_option maxHeartbeats 8000000 in
theorem eqMsg_7 {w : World} (s t : Mg) {ae ac ad be bc bd : Option Addr} {le ce lc cc ld cd me de mc dc md dd : Nat} (hae : Es w (.slice ae le ce) s.ents) (hac : IsR w (.slice ac lc cc) (cI s.conf)) (had : Sl w (.slice ad ld cd) s.data) (hbe : Es w (.slice be me de) t.ents) (hbc : IsR w (.slice bc mc dc) (cI t.conf)) (hbd : Sl w (.slice bd md dd) t.data) (c0 : s.kind = t.kind) (c1 : s.frm = t.frm) (c2 : s.dst = t.dst) (c3 : s.term = t.term) (c4 : s.idx = t.idx) (c5 : s.lterm = t.lterm) (c6 : s.commit = t.commit) (c7 : ¬ s.ents = t.ents) :
    Calls Try.prog 25 #[.agg #[.int .i64 s.kind, .int .i64 s.frm, .int .i64 s.dst, .int .i64 s.term, .int .i64 s.idx, .int .i64 s.lterm, .int .i64 s.commit, .slice ae le ce, .bool s.ok, .int .i64 s.hint, .slice ac lc cc, .slice ad ld cd, .int .i64 s.off, .int .i64 s.size, .int .i64 s.ctx], .agg #[.int .i64 t.kind, .int .i64 t.frm, .int .i64 t.dst, .int .i64 t.term, .int .i64 t.idx, .int .i64 t.lterm, .int .i64 t.commit, .slice be me de, .bool t.ok, .int .i64 t.hint, .slice bc mc dc, .slice bd md dd, .int .i64 t.off, .int .i64 t.size, .int .i64 t.ctx]] w fun e w' => e = .returned (.bool (eqM s t)) ∧ Hid (Below w.heap.size w w') := by
  obtain ⟨W, hW⟩ : ∃ W, Hid (W = (w.alloc (.cells #[.int .i64 s.kind, .int .i64 s.frm, .int .i64 s.dst, .int .i64 s.term, .int .i64 s.idx, .int .i64 s.lterm, .int .i64 s.commit, .slice ae le ce, .bool s.ok, .int .i64 s.hint, .slice ac lc cc, .slice ad ld cd, .int .i64 s.off, .int .i64 s.size, .int .i64 s.ctx] 54)).alloc (.cells #[.int .i64 t.kind, .int .i64 t.frm, .int .i64 t.dst, .int .i64 t.term, .int .i64 t.idx, .int .i64 t.lterm, .int .i64 t.commit, .slice be me de, .bool t.ok, .int .i64 t.hint, .slice bc mc dc, .slice bd md dd, .int .i64 t.off, .int .i64 t.size, .int .i64 t.ctx] 54)) := ⟨_, (rfl : _ = _)⟩
  have HB : Hid (Below w.heap.size w W) := by rw [hW.out]; exact ((Below.refl _ w).alloc (Nat.le_refl _) _).alloc (by simp) _
  have h1 : W.heap[w.heap.size]? = some (.cells #[.int .i64 s.kind, .int .i64 s.frm, .int .i64 s.dst, .int .i64 s.term, .int .i64 s.idx, .int .i64 s.lterm, .int .i64 s.commit, .slice ae le ce, .bool s.ok, .int .i64 s.hint, .slice ac lc cc, .slice ad ld cd, .int .i64 s.off, .int .i64 s.size, .int .i64 s.ctx] 54 (0, 0)) := by
    rw [hW.out]
    exact (((Below.refl _ _).alloc (Nat.le_refl _) _).block w.heap.size (by simp)).trans (heap_alloc_new _ _)
  have h2 : W.heap[w.heap.size + 1]? = some (.cells #[.int .i64 t.kind, .int .i64 t.frm, .int .i64 t.dst, .int .i64 t.term, .int .i64 t.idx, .int .i64 t.lterm, .int .i64 t.commit, .slice be me de, .bool t.ok, .int .i64 t.hint, .slice bc mc dc, .slice bd md dd, .int .i64 t.off, .int .i64 t.size, .int .i64 t.ctx] 54 (0, 0)) := by rw [hW.out]; exact heap_alloc2_new _ _ _
  obtain ⟨x0, x1, x2, x3, x4, x5, x6, x7, x8, x9, x10, x11, x12, x13, x14⟩ := cells_Msg h1
  obtain ⟨y0, y1, y2, y3, y4, y5, y6, y7, y8, y9, y10, y11, y12, y13, y14⟩ := cells_Msg h2
  have H1 := hide h1
  have H2 := hide h2
  have HE : Hid (Calls Try.prog 57 #[.slice ae le ce, .slice be me de] W fun e w' => e = .returned (.bool (decide (s.ents = t.ents))) ∧ Hid (Below W.heap.size W w')) := eqEnts_any _ _ _ _ W (hae.below HB.out) (hbe.below HB.out)
  have HC : Hid (∀ u, Below W.heap.size W u → Calls Try.prog 58 #[.slice ac lc cc, .slice bc mc dc] u fun e w' => e = .returned (.bool (decide (s.conf = t.conf))) ∧ ∃ m, w' = u.drewN m) := fun u hu => eqInts_any _ _ _ _ u ((hac.below HB.out).below hu) ((hbc.below HB.out).below hu)
  obtain ⟨xa, hxa⟩ : ∃ x : ByteArray, Hid (⟨s.data.toArray⟩ = x) := ⟨_, (rfl : _ = _)⟩
  obtain ⟨xb, hxb⟩ : ∃ x : ByteArray, Hid (⟨t.data.toArray⟩ = x) := ⟨_, (rfl : _ = _)⟩
  have HA : Hid (∀ u, Below W.heap.size W u → (convert 24 9 (.slice ad ld cd)).run Try.prog u = .ok (.string xa) u) := fun u hu => conv_sl_any ((had.below HB.out).below hu) hxa.out
  have HBb : Hid (∀ u, Below W.heap.size W u → (convert 24 9 (.slice bd md dd)).run Try.prog u = .ok (.string xb) u) := fun u hu => conv_sl_any ((hbd.below HB.out).below hu) hxb.out
  have hbt := beq_tx s.data t.data
  rw [hxa.out, hxb.out] at hbt
  obtain ⟨res, hres⟩ : ∃ r, Hid (eqM s t = r) := ⟨_, (rfl : _ = _)⟩
  rw [hres.out]
  have hf : ∀ {p : Prop}, ¬ p → (s = t → p) → res = false := fun {p} hn hp => by
    rw [← hres.out, Bool.eq_false_iff]
    exact fun e => hn (hp ((eqM_iff s t).1 e))
  clear h1 h2 hae hac had hbe hbc hbd
  have e := hf c7 (fun h => by rw [h])
  subst e
  have g0 : (s.kind == t.kind) = true := by rw [beq_iff_eq]; exact c0
  have g1 : (s.frm == t.frm) = true := by rw [beq_iff_eq]; exact c1
  have g2 : (s.dst == t.dst) = true := by rw [beq_iff_eq]; exact c2
  have g3 : (s.term == t.term) = true := by rw [beq_iff_eq]; exact c3
  have g4 : (s.idx == t.idx) = true := by rw [beq_iff_eq]; exact c4
  have g5 : (s.lterm == t.lterm) = true := by rw [beq_iff_eq]; exact c5
  have g6 : (s.commit == t.commit) = true := by rw [beq_iff_eq]; exact c6
  rw [decide_eq_false c7] at HE
  clear hf c0 c1 c2 c3 c4 c5 c6 c7
  go_enter Try.func25, Try.ntmps25
  go_upto_region 1 with fail
  rw [← hW.out]
  go_wp2_with fail
  refine Calls.mono HE.out ?_
  rintro e w2 ⟨rfl, H57⟩
  have HB2 := hide (HB.out.trans (H57.out.mono HB.out.size))
  go_wp2_with fail
  go_ret
  exact ⟨rfl, HB2⟩

set_option maxRecDepth 8000 in
set_option maxHeartbeats 8000000 in
theorem eqMsg_8 {w : World} (s t : Mg) {ae ac ad be bc bd : Option Addr} {le ce lc cc ld cd me de mc dc md dd : Nat} (hae : Es w (.slice ae le ce) s.ents) (hac : IsR w (.slice ac lc cc) (cI s.conf)) (had : Sl w (.slice ad ld cd) s.data) (hbe : Es w (.slice be me de) t.ents) (hbc : IsR w (.slice bc mc dc) (cI t.conf)) (hbd : Sl w (.slice bd md dd) t.data) (c0 : s.kind = t.kind) (c1 : s.frm = t.frm) (c2 : s.dst = t.dst) (c3 : s.term = t.term) (c4 : s.idx = t.idx) (c5 : s.lterm = t.lterm) (c6 : s.commit = t.commit) (c7 : s.ents = t.ents) (c8 : ¬ s.ok = t.ok) :
    Calls Try.prog 25 #[.agg #[.int .i64 s.kind, .int .i64 s.frm, .int .i64 s.dst, .int .i64 s.term, .int .i64 s.idx, .int .i64 s.lterm, .int .i64 s.commit, .slice ae le ce, .bool s.ok, .int .i64 s.hint, .slice ac lc cc, .slice ad ld cd, .int .i64 s.off, .int .i64 s.size, .int .i64 s.ctx], .agg #[.int .i64 t.kind, .int .i64 t.frm, .int .i64 t.dst, .int .i64 t.term, .int .i64 t.idx, .int .i64 t.lterm, .int .i64 t.commit, .slice be me de, .bool t.ok, .int .i64 t.hint, .slice bc mc dc, .slice bd md dd, .int .i64 t.off, .int .i64 t.size, .int .i64 t.ctx]] w fun e w' => e = .returned (.bool (eqM s t)) ∧ Hid (Below w.heap.size w w') := by
  obtain ⟨W, hW⟩ : ∃ W, Hid (W = (w.alloc (.cells #[.int .i64 s.kind, .int .i64 s.frm, .int .i64 s.dst, .int .i64 s.term, .int .i64 s.idx, .int .i64 s.lterm, .int .i64 s.commit, .slice ae le ce, .bool s.ok, .int .i64 s.hint, .slice ac lc cc, .slice ad ld cd, .int .i64 s.off, .int .i64 s.size, .int .i64 s.ctx] 54)).alloc (.cells #[.int .i64 t.kind, .int .i64 t.frm, .int .i64 t.dst, .int .i64 t.term, .int .i64 t.idx, .int .i64 t.lterm, .int .i64 t.commit, .slice be me de, .bool t.ok, .int .i64 t.hint, .slice bc mc dc, .slice bd md dd, .int .i64 t.off, .int .i64 t.size, .int .i64 t.ctx] 54)) := ⟨_, (rfl : _ = _)⟩
  have HB : Hid (Below w.heap.size w W) := by rw [hW.out]; exact ((Below.refl _ w).alloc (Nat.le_refl _) _).alloc (by simp) _
  have h1 : W.heap[w.heap.size]? = some (.cells #[.int .i64 s.kind, .int .i64 s.frm, .int .i64 s.dst, .int .i64 s.term, .int .i64 s.idx, .int .i64 s.lterm, .int .i64 s.commit, .slice ae le ce, .bool s.ok, .int .i64 s.hint, .slice ac lc cc, .slice ad ld cd, .int .i64 s.off, .int .i64 s.size, .int .i64 s.ctx] 54 (0, 0)) := by
    rw [hW.out]
    exact (((Below.refl _ _).alloc (Nat.le_refl _) _).block w.heap.size (by simp)).trans (heap_alloc_new _ _)
  have h2 : W.heap[w.heap.size + 1]? = some (.cells #[.int .i64 t.kind, .int .i64 t.frm, .int .i64 t.dst, .int .i64 t.term, .int .i64 t.idx, .int .i64 t.lterm, .int .i64 t.commit, .slice be me de, .bool t.ok, .int .i64 t.hint, .slice bc mc dc, .slice bd md dd, .int .i64 t.off, .int .i64 t.size, .int .i64 t.ctx] 54 (0, 0)) := by rw [hW.out]; exact heap_alloc2_new _ _ _
  obtain ⟨x0, x1, x2, x3, x4, x5, x6, x7, x8, x9, x10, x11, x12, x13, x14⟩ := cells_Msg h1
  obtain ⟨y0, y1, y2, y3, y4, y5, y6, y7, y8, y9, y10, y11, y12, y13, y14⟩ := cells_Msg h2
  have H1 := hide h1
  have H2 := hide h2
  have HE : Hid (Calls Try.prog 57 #[.slice ae le ce, .slice be me de] W fun e w' => e = .returned (.bool (decide (s.ents = t.ents))) ∧ Hid (Below W.heap.size W w')) := eqEnts_any _ _ _ _ W (hae.below HB.out) (hbe.below HB.out)
  have HC : Hid (∀ u, Below W.heap.size W u → Calls Try.prog 58 #[.slice ac lc cc, .slice bc mc dc] u fun e w' => e = .returned (.bool (decide (s.conf = t.conf))) ∧ ∃ m, w' = u.drewN m) := fun u hu => eqInts_any _ _ _ _ u ((hac.below HB.out).below hu) ((hbc.below HB.out).below hu)
  obtain ⟨xa, hxa⟩ : ∃ x : ByteArray, Hid (⟨s.data.toArray⟩ = x) := ⟨_, (rfl : _ = _)⟩
  obtain ⟨xb, hxb⟩ : ∃ x : ByteArray, Hid (⟨t.data.toArray⟩ = x) := ⟨_, (rfl : _ = _)⟩
  have HA : Hid (∀ u, Below W.heap.size W u → (convert 24 9 (.slice ad ld cd)).run Try.prog u = .ok (.string xa) u) := fun u hu => conv_sl_any ((had.below HB.out).below hu) hxa.out
  have HBb : Hid (∀ u, Below W.heap.size W u → (convert 24 9 (.slice bd md dd)).run Try.prog u = .ok (.string xb) u) := fun u hu => conv_sl_any ((hbd.below HB.out).below hu) hxb.out
  have hbt := beq_tx s.data t.data
  rw [hxa.out, hxb.out] at hbt
  obtain ⟨res, hres⟩ : ∃ r, Hid (eqM s t = r) := ⟨_, (rfl : _ = _)⟩
  rw [hres.out]
  have hf : ∀ {p : Prop}, ¬ p → (s = t → p) → res = false := fun {p} hn hp => by
    rw [← hres.out, Bool.eq_false_iff]
    exact fun e => hn (hp ((eqM_iff s t).1 e))
  clear h1 h2 hae hac had hbe hbc hbd
  have e := hf c8 (fun h => by rw [h])
  subst e
  have g0 : (s.kind == t.kind) = true := by rw [beq_iff_eq]; exact c0
  have g1 : (s.frm == t.frm) = true := by rw [beq_iff_eq]; exact c1
  have g2 : (s.dst == t.dst) = true := by rw [beq_iff_eq]; exact c2
  have g3 : (s.term == t.term) = true := by rw [beq_iff_eq]; exact c3
  have g4 : (s.idx == t.idx) = true := by rw [beq_iff_eq]; exact c4
  have g5 : (s.lterm == t.lterm) = true := by rw [beq_iff_eq]; exact c5
  have g6 : (s.commit == t.commit) = true := by rw [beq_iff_eq]; exact c6
  rw [decide_eq_true c7] at HE
  have g8 : (s.ok == t.ok) = false := by rw [beq_eq_false_iff_ne]; exact c8
  clear hf c0 c1 c2 c3 c4 c5 c6 c7 c8
  go_enter Try.func25, Try.ntmps25
  go_upto_region 1 with fail
  rw [← hW.out]
  go_wp2_with fail
  refine Calls.mono HE.out ?_
  rintro e w2 ⟨rfl, H57⟩
  have HB2 := hide (HB.out.trans (H57.out.mono HB.out.size))
  have q1 := (H57.out.block _ (lt_of_block H1.out)).trans H1.out
  have q2 := (H57.out.block _ (lt_of_block H2.out)).trans H2.out
  clear x0 x1 x2 x3 x4 x5 x6 x7 x8 x9 x10 x11 x12 x13 x14 y0 y1 y2 y3 y4 y5 y6 y7 y8 y9 y10 y11 y12 y13 y14
  obtain ⟨x0, x1, x2, x3, x4, x5, x6, x7, x8, x9, x10, x11, x12, x13, x14⟩ := cells_Msg q1
  obtain ⟨y0, y1, y2, y3, y4, y5, y6, y7, y8, y9, y10, y11, y12, y13, y14⟩ := cells_Msg q2
  have HC2 := hide (HC.out w2 H57.out)
  have Q1 := hide q1
  have Q2 := hide q2
  clear q1 q2
  go_wp2_with fail
  go_ret
  exact ⟨rfl, HB2⟩

set_option maxRecDepth 8000 in
set_option maxHeartbeats 8000000 in
theorem eqMsg_9 {w : World} (s t : Mg) {ae ac ad be bc bd : Option Addr} {le ce lc cc ld cd me de mc dc md dd : Nat} (hae : Es w (.slice ae le ce) s.ents) (hac : IsR w (.slice ac lc cc) (cI s.conf)) (had : Sl w (.slice ad ld cd) s.data) (hbe : Es w (.slice be me de) t.ents) (hbc : IsR w (.slice bc mc dc) (cI t.conf)) (hbd : Sl w (.slice bd md dd) t.data) (c0 : s.kind = t.kind) (c1 : s.frm = t.frm) (c2 : s.dst = t.dst) (c3 : s.term = t.term) (c4 : s.idx = t.idx) (c5 : s.lterm = t.lterm) (c6 : s.commit = t.commit) (c7 : s.ents = t.ents) (c8 : s.ok = t.ok) (c9 : ¬ s.hint = t.hint) :
    Calls Try.prog 25 #[.agg #[.int .i64 s.kind, .int .i64 s.frm, .int .i64 s.dst, .int .i64 s.term, .int .i64 s.idx, .int .i64 s.lterm, .int .i64 s.commit, .slice ae le ce, .bool s.ok, .int .i64 s.hint, .slice ac lc cc, .slice ad ld cd, .int .i64 s.off, .int .i64 s.size, .int .i64 s.ctx], .agg #[.int .i64 t.kind, .int .i64 t.frm, .int .i64 t.dst, .int .i64 t.term, .int .i64 t.idx, .int .i64 t.lterm, .int .i64 t.commit, .slice be me de, .bool t.ok, .int .i64 t.hint, .slice bc mc dc, .slice bd md dd, .int .i64 t.off, .int .i64 t.size, .int .i64 t.ctx]] w fun e w' => e = .returned (.bool (eqM s t)) ∧ Hid (Below w.heap.size w w') := by
  obtain ⟨W, hW⟩ : ∃ W, Hid (W = (w.alloc (.cells #[.int .i64 s.kind, .int .i64 s.frm, .int .i64 s.dst, .int .i64 s.term, .int .i64 s.idx, .int .i64 s.lterm, .int .i64 s.commit, .slice ae le ce, .bool s.ok, .int .i64 s.hint, .slice ac lc cc, .slice ad ld cd, .int .i64 s.off, .int .i64 s.size, .int .i64 s.ctx] 54)).alloc (.cells #[.int .i64 t.kind, .int .i64 t.frm, .int .i64 t.dst, .int .i64 t.term, .int .i64 t.idx, .int .i64 t.lterm, .int .i64 t.commit, .slice be me de, .bool t.ok, .int .i64 t.hint, .slice bc mc dc, .slice bd md dd, .int .i64 t.off, .int .i64 t.size, .int .i64 t.ctx] 54)) := ⟨_, (rfl : _ = _)⟩
  have HB : Hid (Below w.heap.size w W) := by rw [hW.out]; exact ((Below.refl _ w).alloc (Nat.le_refl _) _).alloc (by simp) _
  have h1 : W.heap[w.heap.size]? = some (.cells #[.int .i64 s.kind, .int .i64 s.frm, .int .i64 s.dst, .int .i64 s.term, .int .i64 s.idx, .int .i64 s.lterm, .int .i64 s.commit, .slice ae le ce, .bool s.ok, .int .i64 s.hint, .slice ac lc cc, .slice ad ld cd, .int .i64 s.off, .int .i64 s.size, .int .i64 s.ctx] 54 (0, 0)) := by
    rw [hW.out]
    exact (((Below.refl _ _).alloc (Nat.le_refl _) _).block w.heap.size (by simp)).trans (heap_alloc_new _ _)
  have h2 : W.heap[w.heap.size + 1]? = some (.cells #[.int .i64 t.kind, .int .i64 t.frm, .int .i64 t.dst, .int .i64 t.term, .int .i64 t.idx, .int .i64 t.lterm, .int .i64 t.commit, .slice be me de, .bool t.ok, .int .i64 t.hint, .slice bc mc dc, .slice bd md dd, .int .i64 t.off, .int .i64 t.size, .int .i64 t.ctx] 54 (0, 0)) := by rw [hW.out]; exact heap_alloc2_new _ _ _
  obtain ⟨x0, x1, x2, x3, x4, x5, x6, x7, x8, x9, x10, x11, x12, x13, x14⟩ := cells_Msg h1
  obtain ⟨y0, y1, y2, y3, y4, y5, y6, y7, y8, y9, y10, y11, y12, y13, y14⟩ := cells_Msg h2
  have H1 := hide h1
  have H2 := hide h2
  have HE : Hid (Calls Try.prog 57 #[.slice ae le ce, .slice be me de] W fun e w' => e = .returned (.bool (decide (s.ents = t.ents))) ∧ Hid (Below W.heap.size W w')) := eqEnts_any _ _ _ _ W (hae.below HB.out) (hbe.below HB.out)
  have HC : Hid (∀ u, Below W.heap.size W u → Calls Try.prog 58 #[.slice ac lc cc, .slice bc mc dc] u fun e w' => e = .returned (.bool (decide (s.conf = t.conf))) ∧ ∃ m, w' = u.drewN m) := fun u hu => eqInts_any _ _ _ _ u ((hac.below HB.out).below hu) ((hbc.below HB.out).below hu)
  obtain ⟨xa, hxa⟩ : ∃ x : ByteArray, Hid (⟨s.data.toArray⟩ = x) := ⟨_, (rfl : _ = _)⟩
  obtain ⟨xb, hxb⟩ : ∃ x : ByteArray, Hid (⟨t.data.toArray⟩ = x) := ⟨_, (rfl : _ = _)⟩
  have HA : Hid (∀ u, Below W.heap.size W u → (convert 24 9 (.slice ad ld cd)).run Try.prog u = .ok (.string xa) u) := fun u hu => conv_sl_any ((had.below HB.out).below hu) hxa.out
  have HBb : Hid (∀ u, Below W.heap.size W u → (convert 24 9 (.slice bd md dd)).run Try.prog u = .ok (.string xb) u) := fun u hu => conv_sl_any ((hbd.below HB.out).below hu) hxb.out
  have hbt := beq_tx s.data t.data
  rw [hxa.out, hxb.out] at hbt
  obtain ⟨res, hres⟩ : ∃ r, Hid (eqM s t = r) := ⟨_, (rfl : _ = _)⟩
  rw [hres.out]
  have hf : ∀ {p : Prop}, ¬ p → (s = t → p) → res = false := fun {p} hn hp => by
    rw [← hres.out, Bool.eq_false_iff]
    exact fun e => hn (hp ((eqM_iff s t).1 e))
  clear h1 h2 hae hac had hbe hbc hbd
  have e := hf c9 (fun h => by rw [h])
  subst e
  have g0 : (s.kind == t.kind) = true := by rw [beq_iff_eq]; exact c0
  have g1 : (s.frm == t.frm) = true := by rw [beq_iff_eq]; exact c1
  have g2 : (s.dst == t.dst) = true := by rw [beq_iff_eq]; exact c2
  have g3 : (s.term == t.term) = true := by rw [beq_iff_eq]; exact c3
  have g4 : (s.idx == t.idx) = true := by rw [beq_iff_eq]; exact c4
  have g5 : (s.lterm == t.lterm) = true := by rw [beq_iff_eq]; exact c5
  have g6 : (s.commit == t.commit) = true := by rw [beq_iff_eq]; exact c6
  rw [decide_eq_true c7] at HE
  have g8 : (s.ok == t.ok) = true := by rw [beq_iff_eq]; exact c8
  have g9 : (s.hint == t.hint) = false := by rw [beq_eq_false_iff_ne]; exact c9
  clear hf c0 c1 c2 c3 c4 c5 c6 c7 c8 c9
  go_enter Try.func25, Try.ntmps25
  go_upto_region 1 with fail
  rw [← hW.out]
  go_wp2_with fail
  refine Calls.mono HE.out ?_
  rintro e w2 ⟨rfl, H57⟩
  have HB2 := hide (HB.out.trans (H57.out.mono HB.out.size))
  have q1 := (H57.out.block _ (lt_of_block H1.out)).trans H1.out
  have q2 := (H57.out.block _ (lt_of_block H2.out)).trans H2.out
  clear x0 x1 x2 x3 x4 x5 x6 x7 x8 x9 x10 x11 x12 x13 x14 y0 y1 y2 y3 y4 y5 y6 y7 y8 y9 y10 y11 y12 y13 y14
  obtain ⟨x0, x1, x2, x3, x4, x5, x6, x7, x8, x9, x10, x11, x12, x13, x14⟩ := cells_Msg q1
  obtain ⟨y0, y1, y2, y3, y4, y5, y6, y7, y8, y9, y10, y11, y12, y13, y14⟩ := cells_Msg q2
  have HC2 := hide (HC.out w2 H57.out)
  have Q1 := hide q1
  have Q2 := hide q2
  clear q1 q2
  go_wp2_with fail
  go_ret
  exact ⟨rfl, HB2⟩

end Go.Proofs.Ytgknpbgepgmmmaa.Cm
namespace Go.Proofs.Ytgknpbgepgmmmaa.Cm
open Go.RowKit Bn Kp

set_option maxRecDepth 8000 in
set_option maxHeartbeats 8000000 in
theorem eqMsg_10 {w : World} (s t : Mg) {ae ac ad be bc bd : Option Addr} {le ce lc cc ld cd me de mc dc md dd : Nat} (hae : Es w (.slice ae le ce) s.ents) (hac : IsR w (.slice ac lc cc) (cI s.conf)) (had : Sl w (.slice ad ld cd) s.data) (hbe : Es w (.slice be me de) t.ents) (hbc : IsR w (.slice bc mc dc) (cI t.conf)) (hbd : Sl w (.slice bd md dd) t.data) (c0 : s.kind = t.kind) (c1 : s.frm = t.frm) (c2 : s.dst = t.dst) (c3 : s.term = t.term) (c4 : s.idx = t.idx) (c5 : s.lterm = t.lterm) (c6 : s.commit = t.commit) (c7 : s.ents = t.ents) (c8 : s.ok = t.ok) (c9 : s.hint = t.hint) (c10 : ¬ s.conf = t.conf) :
    Calls Try.prog 25 #[.agg #[.int .i64 s.kind, .int .i64 s.frm, .int .i64 s.dst, .int .i64 s.term, .int .i64 s.idx, .int .i64 s.lterm, .int .i64 s.commit, .slice ae le ce, .bool s.ok, .int .i64 s.hint, .slice ac lc cc, .slice ad ld cd, .int .i64 s.off, .int .i64 s.size, .int .i64 s.ctx], .agg #[.int .i64 t.kind, .int .i64 t.frm, .int .i64 t.dst, .int .i64 t.term, .int .i64 t.idx, .int .i64 t.lterm, .int .i64 t.commit, .slice be me de, .bool t.ok, .int .i64 t.hint, .slice bc mc dc, .slice bd md dd, .int .i64 t.off, .int .i64 t.size, .int .i64 t.ctx]] w fun e w' => e = .returned (.bool (eqM s t)) ∧ Hid (Below w.heap.size w w') := by
  obtain ⟨W, hW⟩ : ∃ W, Hid (W = (w.alloc (.cells #[.int .i64 s.kind, .int .i64 s.frm, .int .i64 s.dst, .int .i64 s.term, .int .i64 s.idx, .int .i64 s.lterm, .int .i64 s.commit, .slice ae le ce, .bool s.ok, .int .i64 s.hint, .slice ac lc cc, .slice ad ld cd, .int .i64 s.off, .int .i64 s.size, .int .i64 s.ctx] 54)).alloc (.cells #[.int .i64 t.kind, .int .i64 t.frm, .int .i64 t.dst, .int .i64 t.term, .int .i64 t.idx, .int .i64 t.lterm, .int .i64 t.commit, .slice be me de, .bool t.ok, .int .i64 t.hint, .slice bc mc dc, .slice bd md dd, .int .i64 t.off, .int .i64 t.size, .int .i64 t.ctx] 54)) := ⟨_, (rfl : _ = _)⟩
  have HB : Hid (Below w.heap.size w W) := by rw [hW.out]; exact ((Below.refl _ w).alloc (Nat.le_refl _) _).alloc (by simp) _
  have h1 : W.heap[w.heap.size]? = some (.cells #[.int .i64 s.kind, .int .i64 s.frm, .int .i64 s.dst, .int .i64 s.term, .int .i64 s.idx, .int .i64 s.lterm, .int .i64 s.commit, .slice ae le ce, .bool s.ok, .int .i64 s.hint, .slice ac lc cc, .slice ad ld cd, .int .i64 s.off, .int .i64 s.size, .int .i64 s.ctx] 54 (0, 0)) := by
    rw [hW.out]
    exact (((Below.refl _ _).alloc (Nat.le_refl _) _).block w.heap.size (by simp)).trans (heap_alloc_new _ _)
  have h2 : W.heap[w.heap.size + 1]? = some (.cells #[.int .i64 t.kind, .int .i64 t.frm, .int .i64 t.dst, .int .i64 t.term, .int .i64 t.idx, .int .i64 t.lterm, .int .i64 t.commit, .slice be me de, .bool t.ok, .int .i64 t.hint, .slice bc mc dc, .slice bd md dd, .int .i64 t.off, .int .i64 t.size, .int .i64 t.ctx] 54 (0, 0)) := by rw [hW.out]; exact heap_alloc2_new _ _ _
  obtain ⟨x0, x1, x2, x3, x4, x5, x6, x7, x8, x9, x10, x11, x12, x13, x14⟩ := cells_Msg h1
  obtain ⟨y0, y1, y2, y3, y4, y5, y6, y7, y8, y9, y10, y11, y12, y13, y14⟩ := cells_Msg h2
  have H1 := hide h1
  have H2 := hide h2
  have HE : Hid (Calls Try.prog 57 #[.slice ae le ce, .slice be me de] W fun e w' => e = .returned (.bool (decide (s.ents = t.ents))) ∧ Hid (Below W.heap.size W w')) := eqEnts_any _ _ _ _ W (hae.below HB.out) (hbe.below HB.out)
  have HC : Hid (∀ u, Below W.heap.size W u → Calls Try.prog 58 #[.slice ac lc cc, .slice bc mc dc] u fun e w' => e = .returned (.bool (decide (s.conf = t.conf))) ∧ ∃ m, w' = u.drewN m) := fun u hu => eqInts_any _ _ _ _ u ((hac.below HB.out).below hu) ((hbc.below HB.out).below hu)
  obtain ⟨xa, hxa⟩ : ∃ x : ByteArray, Hid (⟨s.data.toArray⟩ = x) := ⟨_, (rfl : _ = _)⟩
  obtain ⟨xb, hxb⟩ : ∃ x : ByteArray, Hid (⟨t.data.toArray⟩ = x) := ⟨_, (rfl : _ = _)⟩
  have HA : Hid (∀ u, Below W.heap.size W u → (convert 24 9 (.slice ad ld cd)).run Try.prog u = .ok (.string xa) u) := fun u hu => conv_sl_any ((had.below HB.out).below hu) hxa.out
  have HBb : Hid (∀ u, Below W.heap.size W u → (convert 24 9 (.slice bd md dd)).run Try.prog u = .ok (.string xb) u) := fun u hu => conv_sl_any ((hbd.below HB.out).below hu) hxb.out
  have hbt := beq_tx s.data t.data
  rw [hxa.out, hxb.out] at hbt
  obtain ⟨res, hres⟩ : ∃ r, Hid (eqM s t = r) := ⟨_, (rfl : _ = _)⟩
  rw [hres.out]
  have hf : ∀ {p : Prop}, ¬ p → (s = t → p) → res = false := fun {p} hn hp => by
    rw [← hres.out, Bool.eq_false_iff]
    exact fun e => hn (hp ((eqM_iff s t).1 e))
  clear h1 h2 hae hac had hbe hbc hbd
  have e := hf c10 (fun h => by rw [h])
  subst e
  have g0 : (s.kind == t.kind) = true := by rw [beq_iff_eq]; exact c0
  have g1 : (s.frm == t.frm) = true := by rw [beq_iff_eq]; exact c1
  have g2 : (s.dst == t.dst) = true := by rw [beq_iff_eq]; exact c2
  have g3 : (s.term == t.term) = true := by rw [beq_iff_eq]; exact c3
  have g4 : (s.idx == t.idx) = true := by rw [beq_iff_eq]; exact c4
  have g5 : (s.lterm == t.lterm) = true := by rw [beq_iff_eq]; exact c5
  have g6 : (s.commit == t.commit) = true := by rw [beq_iff_eq]; exact c6
  rw [decide_eq_true c7] at HE
  have g8 : (s.ok == t.ok) = true := by rw [beq_iff_eq]; exact c8
  have g9 : (s.hint == t.hint) = true := by rw [beq_iff_eq]; exact c9
  rw [decide_eq_false c10] at HC
  clear hf c0 c1 c2 c3 c4 c5 c6 c7 c8 c9 c10
  go_enter Try.func25, Try.ntmps25
  go_upto_region 1 with fail
  rw [← hW.out]
  go_wp2_with fail
  refine Calls.mono HE.out ?_
  rintro e w2 ⟨rfl, H57⟩
  have HB2 := hide (HB.out.trans (H57.out.mono HB.out.size))
  have q1 := (H57.out.block _ (lt_of_block H1.out)).trans H1.out
  have q2 := (H57.out.block _ (lt_of_block H2.out)).trans H2.out
  clear x0 x1 x2 x3 x4 x5 x6 x7 x8 x9 x10 x11 x12 x13 x14 y0 y1 y2 y3 y4 y5 y6 y7 y8 y9 y10 y11 y12 y13 y14
  obtain ⟨x0, x1, x2, x3, x4, x5, x6, x7, x8, x9, x10, x11, x12, x13, x14⟩ := cells_Msg q1
  obtain ⟨y0, y1, y2, y3, y4, y5, y6, y7, y8, y9, y10, y11, y12, y13, y14⟩ := cells_Msg q2
  have HC2 := hide (HC.out w2 H57.out)
  have Q1 := hide q1
  have Q2 := hide q2
  clear q1 q2
  go_wp2_with fail
  refine Calls.mono HC2.out ?_
  rintro e w3 ⟨rfl, m, hm⟩
  subst hm
  have HB3 := hide (HB2.out.trans ((below_drewN w2 m).mono HB2.out.size))
  go_wp2_with fail
  go_ret
  exact ⟨rfl, HB3⟩

set_option maxRecDepth 8000 in
set_option maxHeartbeats 8000000 in
theorem eqMsg_11 {w : World} (s t : Mg) {ae ac ad be bc bd : Option Addr} {le ce lc cc ld cd me de mc dc md dd : Nat} (hae : Es w (.slice ae le ce) s.ents) (hac : IsR w (.slice ac lc cc) (cI s.conf)) (had : Sl w (.slice ad ld cd) s.data) (hbe : Es w (.slice be me de) t.ents) (hbc : IsR w (.slice bc mc dc) (cI t.conf)) (hbd : Sl w (.slice bd md dd) t.data) (c0 : s.kind = t.kind) (c1 : s.frm = t.frm) (c2 : s.dst = t.dst) (c3 : s.term = t.term) (c4 : s.idx = t.idx) (c5 : s.lterm = t.lterm) (c6 : s.commit = t.commit) (c7 : s.ents = t.ents) (c8 : s.ok = t.ok) (c9 : s.hint = t.hint) (c10 : s.conf = t.conf) (c11 : ¬ s.data = t.data) :
    Calls Try.prog 25 #[.agg #[.int .i64 s.kind, .int .i64 s.frm, .int .i64 s.dst, .int .i64 s.term, .int .i64 s.idx, .int .i64 s.lterm, .int .i64 s.commit, .slice ae le ce, .bool s.ok, .int .i64 s.hint, .slice ac lc cc, .slice ad ld cd, .int .i64 s.off, .int .i64 s.size, .int .i64 s.ctx], .agg #[.int .i64 t.kind, .int .i64 t.frm, .int .i64 t.dst, .int .i64 t.term, .int .i64 t.idx, .int .i64 t.lterm, .int .i64 t.commit, .slice be me de, .bool t.ok, .int .i64 t.hint, .slice bc mc dc, .slice bd md dd, .int .i64 t.off, .int .i64 t.size, .int .i64 t.ctx]] w fun e w' => e = .returned (.bool (eqM s t)) ∧ Hid (Below w.heap.size w w') := by
  obtain ⟨W, hW⟩ : ∃ W, Hid (W = (w.alloc (.cells #[.int .i64 s.kind, .int .i64 s.frm, .int .i64 s.dst, .int .i64 s.term, .int .i64 s.idx, .int .i64 s.lterm, .int .i64 s.commit, .slice ae le ce, .bool s.ok, .int .i64 s.hint, .slice ac lc cc, .slice ad ld cd, .int .i64 s.off, .int .i64 s.size, .int .i64 s.ctx] 54)).alloc (.cells #[.int .i64 t.kind, .int .i64 t.frm, .int .i64 t.dst, .int .i64 t.term, .int .i64 t.idx, .int .i64 t.lterm, .int .i64 t.commit, .slice be me de, .bool t.ok, .int .i64 t.hint, .slice bc mc dc, .slice bd md dd, .int .i64 t.off, .int .i64 t.size, .int .i64 t.ctx] 54)) := ⟨_, (rfl : _ = _)⟩
  have HB : Hid (Below w.heap.size w W) := by rw [hW.out]; exact ((Below.refl _ w).alloc (Nat.le_refl _) _).alloc (by simp) _
  have h1 : W.heap[w.heap.size]? = some (.cells #[.int .i64 s.kind, .int .i64 s.frm, .int .i64 s.dst, .int .i64 s.term, .int .i64 s.idx, .int .i64 s.lterm, .int .i64 s.commit, .slice ae le ce, .bool s.ok, .int .i64 s.hint, .slice ac lc cc, .slice ad ld cd, .int .i64 s.off, .int .i64 s.size, .int .i64 s.ctx] 54 (0, 0)) := by
    rw [hW.out]
    exact (((Below.refl _ _).alloc (Nat.le_refl _) _).block w.heap.size (by simp)).trans (heap_alloc_new _ _)
  have h2 : W.heap[w.heap.size + 1]? = some (.cells #[.int .i64 t.kind, .int .i64 t.frm, .int .i64 t.dst, .int .i64 t.term, .int .i64 t.idx, .int .i64 t.lterm, .int .i64 t.commit, .slice be me de, .bool t.ok, .int .i64 t.hint, .slice bc mc dc, .slice bd md dd, .int .i64 t.off, .int .i64 t.size, .int .i64 t.ctx] 54 (0, 0)) := by rw [hW.out]; exact heap_alloc2_new _ _ _
  obtain ⟨x0, x1, x2, x3, x4, x5, x6, x7, x8, x9, x10, x11, x12, x13, x14⟩ := cells_Msg h1
  obtain ⟨y0, y1, y2, y3, y4, y5, y6, y7, y8, y9, y10, y11, y12, y13, y14⟩ := cells_Msg h2
  have H1 := hide h1
  have H2 := hide h2
  have HE : Hid (Calls Try.prog 57 #[.slice ae le ce, .slice be me de] W fun e w' => e = .returned (.bool (decide (s.ents = t.ents))) ∧ Hid (Below W.heap.size W w')) := eqEnts_any _ _ _ _ W (hae.below HB.out) (hbe.below HB.out)
  have HC : Hid (∀ u, Below W.heap.size W u → Calls Try.prog 58 #[.slice ac lc cc, .slice bc mc dc] u fun e w' => e = .returned (.bool (decide (s.conf = t.conf))) ∧ ∃ m, w' = u.drewN m) := fun u hu => eqInts_any _ _ _ _ u ((hac.below HB.out).below hu) ((hbc.below HB.out).below hu)
  obtain ⟨xa, hxa⟩ : ∃ x : ByteArray, Hid (⟨s.data.toArray⟩ = x) := ⟨_, (rfl : _ = _)⟩
  obtain ⟨xb, hxb⟩ : ∃ x : ByteArray, Hid (⟨t.data.toArray⟩ = x) := ⟨_, (rfl : _ = _)⟩
  have HA : Hid (∀ u, Below W.heap.size W u → (convert 24 9 (.slice ad ld cd)).run Try.prog u = .ok (.string xa) u) := fun u hu => conv_sl_any ((had.below HB.out).below hu) hxa.out
  have HBb : Hid (∀ u, Below W.heap.size W u → (convert 24 9 (.slice bd md dd)).run Try.prog u = .ok (.string xb) u) := fun u hu => conv_sl_any ((hbd.below HB.out).below hu) hxb.out
  have hbt := beq_tx s.data t.data
  rw [hxa.out, hxb.out] at hbt
  obtain ⟨res, hres⟩ : ∃ r, Hid (eqM s t = r) := ⟨_, (rfl : _ = _)⟩
  rw [hres.out]
  have hf : ∀ {p : Prop}, ¬ p → (s = t → p) → res = false := fun {p} hn hp => by
    rw [← hres.out, Bool.eq_false_iff]
    exact fun e => hn (hp ((eqM_iff s t).1 e))
  clear h1 h2 hae hac had hbe hbc hbd
  have e := hf c11 (fun h => by rw [h])
  subst e
  have g0 : (s.kind == t.kind) = true := by rw [beq_iff_eq]; exact c0
  have g1 : (s.frm == t.frm) = true := by rw [beq_iff_eq]; exact c1
  have g2 : (s.dst == t.dst) = true := by rw [beq_iff_eq]; exact c2
  have g3 : (s.term == t.term) = true := by rw [beq_iff_eq]; exact c3
  have g4 : (s.idx == t.idx) = true := by rw [beq_iff_eq]; exact c4
  have g5 : (s.lterm == t.lterm) = true := by rw [beq_iff_eq]; exact c5
  have g6 : (s.commit == t.commit) = true := by rw [beq_iff_eq]; exact c6
  rw [decide_eq_true c7] at HE
  have g8 : (s.ok == t.ok) = true := by rw [beq_iff_eq]; exact c8
  have g9 : (s.hint == t.hint) = true := by rw [beq_iff_eq]; exact c9
  rw [decide_eq_true c10] at HC
  rw [decide_eq_false c11] at hbt
  clear hf c0 c1 c2 c3 c4 c5 c6 c7 c8 c9 c10 c11
  go_enter Try.func25, Try.ntmps25
  go_upto_region 1 with fail
  rw [← hW.out]
  go_wp2_with fail
  refine Calls.mono HE.out ?_
  rintro e w2 ⟨rfl, H57⟩
  have HB2 := hide (HB.out.trans (H57.out.mono HB.out.size))
  have q1 := (H57.out.block _ (lt_of_block H1.out)).trans H1.out
  have q2 := (H57.out.block _ (lt_of_block H2.out)).trans H2.out
  clear x0 x1 x2 x3 x4 x5 x6 x7 x8 x9 x10 x11 x12 x13 x14 y0 y1 y2 y3 y4 y5 y6 y7 y8 y9 y10 y11 y12 y13 y14
  obtain ⟨x0, x1, x2, x3, x4, x5, x6, x7, x8, x9, x10, x11, x12, x13, x14⟩ := cells_Msg q1
  obtain ⟨y0, y1, y2, y3, y4, y5, y6, y7, y8, y9, y10, y11, y12, y13, y14⟩ := cells_Msg q2
  have HC2 := hide (HC.out w2 H57.out)
  have Q1 := hide q1
  have Q2 := hide q2
  clear q1 q2
  go_wp2_with fail
  refine Calls.mono HC2.out ?_
  rintro e w3 ⟨rfl, m, hm⟩
  subst hm
  have HB3 := hide (HB2.out.trans ((below_drewN w2 m).mono HB2.out.size))
  clear x0 x1 x2 x3 x4 x5 x6 x7 x8 x9 x10 x11 x12 x13 x14 y0 y1 y2 y3 y4 y5 y6 y7 y8 y9 y10 y11 y12 y13 y14
  obtain ⟨x0, x1, x2, x3, x4, x5, x6, x7, x8, x9, x10, x11, x12, x13, x14⟩ := cells_Msg (show (w2.drewN m).heap[w.heap.size]? = _ from Q1.out)
  obtain ⟨y0, y1, y2, y3, y4, y5, y6, y7, y8, y9, y10, y11, y12, y13, y14⟩ := cells_Msg (show (w2.drewN m).heap[w.heap.size + 1]? = _ from Q2.out)
  have ka := HA.out _ (H57.out.trans ((below_drewN w2 m).mono H57.out.size))
  have kb := HBb.out _ (H57.out.trans ((below_drewN w2 m).mono H57.out.size))
  go_wp2_with fail
  go_ret
  exact ⟨rfl, HB3⟩

set_option maxRecDepth 8000 in
set_option maxHeartbeats 8000000 in
theorem eqMsg_12 {w : World} (s t : Mg) {ae ac ad be bc bd : Option Addr} {le ce lc cc ld cd me de mc dc md dd : Nat} (hae : Es w (.slice ae le ce) s.ents) (hac : IsR w (.slice ac lc cc) (cI s.conf)) (had : Sl w (.slice ad ld cd) s.data) (hbe : Es w (.slice be me de) t.ents) (hbc : IsR w (.slice bc mc dc) (cI t.conf)) (hbd : Sl w (.slice bd md dd) t.data) (c0 : s.kind = t.kind) (c1 : s.frm = t.frm) (c2 : s.dst = t.dst) (c3 : s.term = t.term) (c4 : s.idx = t.idx) (c5 : s.lterm = t.lterm) (c6 : s.commit = t.commit) (c7 : s.ents = t.ents) (c8 : s.ok = t.ok) (c9 : s.hint = t.hint) (c10 : s.conf = t.conf) (c11 : s.data = t.data) (c12 : ¬ s.off = t.off) :
    Calls Try.prog 25 #[.agg #[.int .i64 s.kind, .int .i64 s.frm, .int .i64 s.dst, .int .i64 s.term, .int .i64 s.idx, .int .i64 s.lterm, .int .i64 s.commit, .slice ae le ce, .bool s.ok, .int .i64 s.hint, .slice ac lc cc, .slice ad ld cd, .int .i64 s.off, .int .i64 s.size, .int .i64 s.ctx], .agg #[.int .i64 t.kind, .int .i64 t.frm, .int .i64 t.dst, .int .i64 t.term, .int .i64 t.idx, .int .i64 t.lterm, .int .i64 t.commit, .slice be me de, .bool t.ok, .int .i64 t.hint, .slice bc mc dc, .slice bd md dd, .int .i64 t.off, .int .i64 t.size, .int .i64 t.ctx]] w fun e w' => e = .returned (.bool (eqM s t)) ∧ Hid (Below w.heap.size w w') := by
  obtain ⟨W, hW⟩ : ∃ W, Hid (W = (w.alloc (.cells #[.int .i64 s.kind, .int .i64 s.frm, .int .i64 s.dst, .int .i64 s.term, .int .i64 s.idx, .int .i64 s.lterm, .int .i64 s.commit, .slice ae le ce, .bool s.ok, .int .i64 s.hint, .slice ac lc cc, .slice ad ld cd, .int .i64 s.off, .int .i64 s.size, .int .i64 s.ctx] 54)).alloc (.cells #[.int .i64 t.kind, .int .i64 t.frm, .int .i64 t.dst, .int .i64 t.term, .int .i64 t.idx, .int .i64 t.lterm, .int .i64 t.commit, .slice be me de, .bool t.ok, .int .i64 t.hint, .slice bc mc dc, .slice bd md dd, .int .i64 t.off, .int .i64 t.size, .int .i64 t.ctx] 54)) := ⟨_, (rfl : _ = _)⟩
  have HB : Hid (Below w.heap.size w W) := by rw [hW.out]; exact ((Below.refl _ w).alloc (Nat.le_refl _) _).alloc (by simp) _
  have h1 : W.heap[w.heap.size]? = some (.cells #[.int .i64 s.kind, .int .i64 s.frm, .int .i64 s.dst, .int .i64 s.term, .int .i64 s.idx, .int .i64 s.lterm, .int .i64 s.commit, .slice ae le ce, .bool s.ok, .int .i64 s.hint, .slice ac lc cc, .slice ad ld cd, .int .i64 s.off, .int .i64 s.size, .int .i64 s.ctx] 54 (0, 0)) := by
    rw [hW.out]
    exact (((Below.refl _ _).alloc (Nat.le_refl _) _).block w.heap.size (by simp)).trans (heap_alloc_new _ _)
  have h2 : W.heap[w.heap.size + 1]? = some (.cells #[.int .i64 t.kind, .int .i64 t.frm, .int .i64 t.dst, .int .i64 t.term, .int .i64 t.idx, .int .i64 t.lterm, .int .i64 t.commit, .slice be me de, .bool t.ok, .int .i64 t.hint, .slice bc mc dc, .slice bd md dd, .int .i64 t.off, .int .i64 t.size, .int .i64 t.ctx] 54 (0, 0)) := by rw [hW.out]; exact heap_alloc2_new _ _ _
  obtain ⟨x0, x1, x2, x3, x4, x5, x6, x7, x8, x9, x10, x11, x12, x13, x14⟩ := cells_Msg h1
  obtain ⟨y0, y1, y2, y3, y4, y5, y6, y7, y8, y9, y10, y11, y12, y13, y14⟩ := cells_Msg h2
  have H1 := hide h1
  have H2 := hide h2
  have HE : Hid (Calls Try.prog 57 #[.slice ae le ce, .slice be me de] W fun e w' => e = .returned (.bool (decide (s.ents = t.ents))) ∧ Hid (Below W.heap.size W w')) := eqEnts_any _ _ _ _ W (hae.below HB.out) (hbe.below HB.out)
  have HC : Hid (∀ u, Below W.heap.size W u → Calls Try.prog 58 #[.slice ac lc cc, .slice bc mc dc] u fun e w' => e = .returned (.bool (decide (s.conf = t.conf))) ∧ ∃ m, w' = u.drewN m) := fun u hu => eqInts_any _ _ _ _ u ((hac.below HB.out).below hu) ((hbc.below HB.out).below hu)
  obtain ⟨xa, hxa⟩ : ∃ x : ByteArray, Hid (⟨s.data.toArray⟩ = x) := ⟨_, (rfl : _ = _)⟩
  obtain ⟨xb, hxb⟩ : ∃ x : ByteArray, Hid (⟨t.data.toArray⟩ = x) := ⟨_, (rfl : _ = _)⟩
  have HA : Hid (∀ u, Below W.heap.size W u → (convert 24 9 (.slice ad ld cd)).run Try.prog u = .ok (.string xa) u) := fun u hu => conv_sl_any ((had.below HB.out).below hu) hxa.out
  have HBb : Hid (∀ u, Below W.heap.size W u → (convert 24 9 (.slice bd md dd)).run Try.prog u = .ok (.string xb) u) := fun u hu => conv_sl_any ((hbd.below HB.out).below hu) hxb.out
  have hbt := beq_tx s.data t.data
  rw [hxa.out, hxb.out] at hbt
  obtain ⟨res, hres⟩ : ∃ r, Hid (eqM s t = r) := ⟨_, (rfl : _ = _)⟩
  rw [hres.out]
  have hf : ∀ {p : Prop}, ¬ p → (s = t → p) → res = false := fun {p} hn hp => by
    rw [← hres.out, Bool.eq_false_iff]
    exact fun e => hn (hp ((eqM_iff s t).1 e))
  clear h1 h2 hae hac had hbe hbc hbd
  have e := hf c12 (fun h => by rw [h])
  subst e
  have g0 : (s.kind == t.kind) = true := by rw [beq_iff_eq]; exact c0
  have g1 : (s.frm == t.frm) = true := by rw [beq_iff_eq]; exact c1
  have g2 : (s.dst == t.dst) = true := by rw [beq_iff_eq]; exact c2
  have g3 : (s.term == t.term) = true := by rw [beq_iff_eq]; exact c3
  have g4 : (s.idx == t.idx) = true := by rw [beq_iff_eq]; exact c4
  have g5 : (s.lterm == t.lterm) = true := by rw [beq_iff_eq]; exact c5
  have g6 : (s.commit == t.commit) = true := by rw [beq_iff_eq]; exact c6
  rw [decide_eq_true c7] at HE
  have g8 : (s.ok == t.ok) = true := by rw [beq_iff_eq]; exact c8
  have g9 : (s.hint == t.hint) = true := by rw [beq_iff_eq]; exact c9
  rw [decide_eq_true c10] at HC
  rw [decide_eq_true c11] at hbt
  have g12 : (s.off == t.off) = false := by rw [beq_eq_false_iff_ne]; exact c12
  clear hf c0 c1 c2 c3 c4 c5 c6 c7 c8 c9 c10 c11 c12
  go_enter Try.func25, Try.ntmps25
  go_upto_region 1 with fail
  rw [← hW.out]
  go_wp2_with fail
  refine Calls.mono HE.out ?_
  rintro e w2 ⟨rfl, H57⟩
  have HB2 := hide (HB.out.trans (H57.out.mono HB.out.size))
  have q1 := (H57.out.block _ (lt_of_block H1.out)).trans H1.out
  have q2 := (H57.out.block _ (lt_of_block H2.out)).trans H2.out
  clear x0 x1 x2 x3 x4 x5 x6 x7 x8 x9 x10 x11 x12 x13 x14 y0 y1 y2 y3 y4 y5 y6 y7 y8 y9 y10 y11 y12 y13 y14
  obtain ⟨x0, x1, x2, x3, x4, x5, x6, x7, x8, x9, x10, x11, x12, x13, x14⟩ := cells_Msg q1
  obtain ⟨y0, y1, y2, y3, y4, y5, y6, y7, y8, y9, y10, y11, y12, y13, y14⟩ := cells_Msg q2
  have HC2 := hide (HC.out w2 H57.out)
  have Q1 := hide q1
  have Q2 := hide q2
  clear q1 q2
  go_wp2_with fail
  refine Calls.mono HC2.out ?_
  rintro e w3 ⟨rfl, m, hm⟩
  subst hm
  have HB3 := hide (HB2.out.trans ((below_drewN w2 m).mono HB2.out.size))
  clear x0 x1 x2 x3 x4 x5 x6 x7 x8 x9 x10 x11 x12 x13 x14 y0 y1 y2 y3 y4 y5 y6 y7 y8 y9 y10 y11 y12 y13 y14
  obtain ⟨x0, x1, x2, x3, x4, x5, x6, x7, x8, x9, x10, x11, x12, x13, x14⟩ := cells_Msg (show (w2.drewN m).heap[w.heap.size]? = _ from Q1.out)
  obtain ⟨y0, y1, y2, y3, y4, y5, y6, y7, y8, y9, y10, y11, y12, y13, y14⟩ := cells_Msg (show (w2.drewN m).heap[w.heap.size + 1]? = _ from Q2.out)
  have ka := HA.out _ (H57.out.trans ((below_drewN w2 m).mono H57.out.size))
  have kb := HBb.out _ (H57.out.trans ((below_drewN w2 m).mono H57.out.size))
  go_wp2_with fail
  go_ret
  exact ⟨rfl, HB3⟩

end Go.Proofs.Ytgknpbgepgmmmaa.Cm
namespace Go.Proofs.Ytgknpbgepgmmmaa.Cm
open Go.RowKit Bn Kp

set_option maxRecDepth 8000 in
set_option maxHeartbeats 8000000 in
theorem eqMsg_13 {w : World} (s t : Mg) {ae ac ad be bc bd : Option Addr} {le ce lc cc ld cd me de mc dc md dd : Nat} (hae : Es w (.slice ae le ce) s.ents) (hac : IsR w (.slice ac lc cc) (cI s.conf)) (had : Sl w (.slice ad ld cd) s.data) (hbe : Es w (.slice be me de) t.ents) (hbc : IsR w (.slice bc mc dc) (cI t.conf)) (hbd : Sl w (.slice bd md dd) t.data) (c0 : s.kind = t.kind) (c1 : s.frm = t.frm) (c2 : s.dst = t.dst) (c3 : s.term = t.term) (c4 : s.idx = t.idx) (c5 : s.lterm = t.lterm) (c6 : s.commit = t.commit) (c7 : s.ents = t.ents) (c8 : s.ok = t.ok) (c9 : s.hint = t.hint) (c10 : s.conf = t.conf) (c11 : s.data = t.data) (c12 : s.off = t.off) (c13 : ¬ s.size = t.size) :
    Calls Try.prog 25 #[.agg #[.int .i64 s.kind, .int .i64 s.frm, .int .i64 s.dst, .int .i64 s.term, .int .i64 s.idx, .int .i64 s.lterm, .int .i64 s.commit, .slice ae le ce, .bool s.ok, .int .i64 s.hint, .slice ac lc cc, .slice ad ld cd, .int .i64 s.off, .int .i64 s.size, .int .i64 s.ctx], .agg #[.int .i64 t.kind, .int .i64 t.frm, .int .i64 t.dst, .int .i64 t.term, .int .i64 t.idx, .int .i64 t.lterm, .int .i64 t.commit, .slice be me de, .bool t.ok, .int .i64 t.hint, .slice bc mc dc, .slice bd md dd, .int .i64 t.off, .int .i64 t.size, .int .i64 t.ctx]] w fun e w' => e = .returned (.bool (eqM s t)) ∧ Hid (Below w.heap.size w w') := by
  obtain ⟨W, hW⟩ : ∃ W, Hid (W = (w.alloc (.cells #[.int .i64 s.kind, .int .i64 s.frm, .int .i64 s.dst, .int .i64 s.term, .int .i64 s.idx, .int .i64 s.lterm, .int .i64 s.commit, .slice ae le ce, .bool s.ok, .int .i64 s.hint, .slice ac lc cc, .slice ad ld cd, .int .i64 s.off, .int .i64 s.size, .int .i64 s.ctx] 54)).alloc (.cells #[.int .i64 t.kind, .int .i64 t.frm, .int .i64 t.dst, .int .i64 t.term, .int .i64 t.idx, .int .i64 t.lterm, .int .i64 t.commit, .slice be me de, .bool t.ok, .int .i64 t.hint, .slice bc mc dc, .slice bd md dd, .int .i64 t.off, .int .i64 t.size, .int .i64 t.ctx] 54)) := ⟨_, (rfl : _ = _)⟩
  have HB : Hid (Below w.heap.size w W) := by rw [hW.out]; exact ((Below.refl _ w).alloc (Nat.le_refl _) _).alloc (by simp) _
  have h1 : W.heap[w.heap.size]? = some (.cells #[.int .i64 s.kind, .int .i64 s.frm, .int .i64 s.dst, .int .i64 s.term, .int .i64 s.idx, .int .i64 s.lterm, .int .i64 s.commit, .slice ae le ce, .bool s.ok, .int .i64 s.hint, .slice ac lc cc, .slice ad ld cd, .int .i64 s.off, .int .i64 s.size, .int .i64 s.ctx] 54 (0, 0)) := by
    rw [hW.out]
    exact (((Below.refl _ _).alloc (Nat.le_refl _) _).block w.heap.size (by simp)).trans (heap_alloc_new _ _)
  have h2 : W.heap[w.heap.size + 1]? = some (.cells #[.int .i64 t.kind, .int .i64 t.frm, .int .i64 t.dst, .int .i64 t.term, .int .i64 t.idx, .int .i64 t.lterm, .int .i64 t.commit, .slice be me de, .bool t.ok, .int .i64 t.hint, .slice bc mc dc, .slice bd md dd, .int .i64 t.off, .int .i64 t.size, .int .i64 t.ctx] 54 (0, 0)) := by rw [hW.out]; exact heap_alloc2_new _ _ _
  obtain ⟨x0, x1, x2, x3, x4, x5, x6, x7, x8, x9, x10, x11, x12, x13, x14⟩ := cells_Msg h1
  obtain ⟨y0, y1, y2, y3, y4, y5, y6, y7, y8, y9, y10, y11, y12, y13, y14⟩ := cells_Msg h2
  have H1 := hide h1
  have H2 := hide h2
  have HE : Hid (Calls Try.prog 57 #[.slice ae le ce, .slice be me de] W fun e w' => e = .returned (.bool (decide (s.ents = t.ents))) ∧ Hid (Below W.heap.size W w')) := eqEnts_any _ _ _ _ W (hae.below HB.out) (hbe.below HB.out)
  have HC : Hid (∀ u, Below W.heap.size W u → Calls Try.prog 58 #[.slice ac lc cc, .slice bc mc dc] u fun e w' => e = .returned (.bool (decide (s.conf = t.conf))) ∧ ∃ m, w' = u.drewN m) := fun u hu => eqInts_any _ _ _ _ u ((hac.below HB.out).below hu) ((hbc.below HB.out).below hu)
  obtain ⟨xa, hxa⟩ : ∃ x : ByteArray, Hid (⟨s.data.toArray⟩ = x) := ⟨_, (rfl : _ = _)⟩
  obtain ⟨xb, hxb⟩ : ∃ x : ByteArray, Hid (⟨t.data.toArray⟩ = x) := ⟨_, (rfl : _ = _)⟩
  have HA : Hid (∀ u, Below W.heap.size W u → (convert 24 9 (.slice ad ld cd)).run Try.prog u = .ok (.string xa) u) := fun u hu => conv_sl_any ((had.below HB.out).below hu) hxa.out
  have HBb : Hid (∀ u, Below W.heap.size W u → (convert 24 9 (.slice bd md dd)).run Try.prog u = .ok (.string xb) u) := fun u hu => conv_sl_any ((hbd.below HB.out).below hu) hxb.out
  have hbt := beq_tx s.data t.data
  rw [hxa.out, hxb.out] at hbt
  obtain ⟨res, hres⟩ : ∃ r, Hid (eqM s t = r) := ⟨_, (rfl : _ = _)⟩
  rw [hres.out]
  have hf : ∀ {p : Prop}, ¬ p → (s = t → p) → res = false := fun {p} hn hp => by
    rw [← hres.out, Bool.eq_false_iff]
    exact fun e => hn (hp ((eqM_iff s t).1 e))
  clear h1 h2 hae hac had hbe hbc hbd
  have e := hf c13 (fun h => by rw [h])
  subst e
  have g0 : (s.kind == t.kind) = true := by rw [beq_iff_eq]; exact c0
  have g1 : (s.frm == t.frm) = true := by rw [beq_iff_eq]; exact c1
  have g2 : (s.dst == t.dst) = true := by rw [beq_iff_eq]; exact c2
  have g3 : (s.term == t.term) = true := by rw [beq_iff_eq]; exact c3
  have g4 : (s.idx == t.idx) = true := by rw [beq_iff_eq]; exact c4
  have g5 : (s.lterm == t.lterm) = true := by rw [beq_iff_eq]; exact c5
  have g6 : (s.commit == t.commit) = true := by rw [beq_iff_eq]; exact c6
  rw [decide_eq_true c7] at HE
  have g8 : (s.ok == t.ok) = true := by rw [beq_iff_eq]; exact c8
  have g9 : (s.hint == t.hint) = true := by rw [beq_iff_eq]; exact c9
  rw [decide_eq_true c10] at HC
  rw [decide_eq_true c11] at hbt
  have g12 : (s.off == t.off) = true := by rw [beq_iff_eq]; exact c12
  have g13 : (s.size == t.size) = false := by rw [beq_eq_false_iff_ne]; exact c13
  clear hf c0 c1 c2 c3 c4 c5 c6 c7 c8 c9 c10 c11 c12 c13
  go_enter Try.func25, Try.ntmps25
  go_upto_region 1 with fail
  rw [← hW.out]
  go_wp2_with fail
  refine Calls.mono HE.out ?_
  rintro e w2 ⟨rfl, H57⟩
  have HB2 := hide (HB.out.trans (H57.out.mono HB.out.size))
  have q1 := (H57.out.block _ (lt_of_block H1.out)).trans H1.out
  have q2 := (H57.out.block _ (lt_of_block H2.out)).trans H2.out
  clear x0 x1 x2 x3 x4 x5 x6 x7 x8 x9 x10 x11 x12 x13 x14 y0 y1 y2 y3 y4 y5 y6 y7 y8 y9 y10 y11 y12 y13 y14
  obtain ⟨x0, x1, x2, x3, x4, x5, x6, x7, x8, x9, x10, x11, x12, x13, x14⟩ := cells_Msg q1
  obtain ⟨y0, y1, y2, y3, y4, y5, y6, y7, y8, y9, y10, y11, y12, y13, y14⟩ := cells_Msg q2
  have HC2 := hide (HC.out w2 H57.out)
  have Q1 := hide q1
  have Q2 := hide q2
  clear q1 q2
  go_wp2_with fail
  refine Calls.mono HC2.out ?_
  rintro e w3 ⟨rfl, m, hm⟩
  subst hm
  have HB3 := hide (HB2.out.trans ((below_drewN w2 m).mono HB2.out.size))
  clear x0 x1 x2 x3 x4 x5 x6 x7 x8 x9 x10 x11 x12 x13 x14 y0 y1 y2 y3 y4 y5 y6 y7 y8 y9 y10 y11 y12 y13 y14
  obtain ⟨x0, x1, x2, x3, x4, x5, x6, x7, x8, x9, x10, x11, x12, x13, x14⟩ := cells_Msg (show (w2.drewN m).heap[w.heap.size]? = _ from Q1.out)
  obtain ⟨y0, y1, y2, y3, y4, y5, y6, y7, y8, y9, y10, y11, y12, y13, y14⟩ := cells_Msg (show (w2.drewN m).heap[w.heap.size + 1]? = _ from Q2.out)
  have ka := HA.out _ (H57.out.trans ((below_drewN w2 m).mono H57.out.size))
  have kb := HBb.out _ (H57.out.trans ((below_drewN w2 m).mono H57.out.size))
  go_wp2_with fail
  go_ret
  exact ⟨rfl, HB3⟩

set_option maxRecDepth 8000 in
set_option maxHeartbeats 8000000 in
theorem eqMsg_14 {w : World} (s t : Mg) {ae ac ad be bc bd : Option Addr} {le ce lc cc ld cd me de mc dc md dd : Nat} (hae : Es w (.slice ae le ce) s.ents) (hac : IsR w (.slice ac lc cc) (cI s.conf)) (had : Sl w (.slice ad ld cd) s.data) (hbe : Es w (.slice be me de) t.ents) (hbc : IsR w (.slice bc mc dc) (cI t.conf)) (hbd : Sl w (.slice bd md dd) t.data) (c0 : s.kind = t.kind) (c1 : s.frm = t.frm) (c2 : s.dst = t.dst) (c3 : s.term = t.term) (c4 : s.idx = t.idx) (c5 : s.lterm = t.lterm) (c6 : s.commit = t.commit) (c7 : s.ents = t.ents) (c8 : s.ok = t.ok) (c9 : s.hint = t.hint) (c10 : s.conf = t.conf) (c11 : s.data = t.data) (c12 : s.off = t.off) (c13 : s.size = t.size) (c14 : ¬ s.ctx = t.ctx) :
    Calls Try.prog 25 #[.agg #[.int .i64 s.kind, .int .i64 s.frm, .int .i64 s.dst, .int .i64 s.term, .int .i64 s.idx, .int .i64 s.lterm, .int .i64 s.commit, .slice ae le ce, .bool s.ok, .int .i64 s.hint, .slice ac lc cc, .slice ad ld cd, .int .i64 s.off, .int .i64 s.size, .int .i64 s.ctx], .agg #[.int .i64 t.kind, .int .i64 t.frm, .int .i64 t.dst, .int .i64 t.term, .int .i64 t.idx, .int .i64 t.lterm, .int .i64 t.commit, .slice be me de, .bool t.ok, .int .i64 t.hint, .slice bc mc dc, .slice bd md dd, .int .i64 t.off, .int .i64 t.size, .int .i64 t.ctx]] w fun e w' => e = .returned (.bool (eqM s t)) ∧ Hid (Below w.heap.size w w') := by
  obtain ⟨W, hW⟩ : ∃ W, Hid (W = (w.alloc (.cells #[.int .i64 s.kind, .int .i64 s.frm, .int .i64 s.dst, .int .i64 s.term, .int .i64 s.idx, .int .i64 s.lterm, .int .i64 s.commit, .slice ae le ce, .bool s.ok, .int .i64 s.hint, .slice ac lc cc, .slice ad ld cd, .int .i64 s.off, .int .i64 s.size, .int .i64 s.ctx] 54)).alloc (.cells #[.int .i64 t.kind, .int .i64 t.frm, .int .i64 t.dst, .int .i64 t.term, .int .i64 t.idx, .int .i64 t.lterm, .int .i64 t.commit, .slice be me de, .bool t.ok, .int .i64 t.hint, .slice bc mc dc, .slice bd md dd, .int .i64 t.off, .int .i64 t.size, .int .i64 t.ctx] 54)) := ⟨_, (rfl : _ = _)⟩
  have HB : Hid (Below w.heap.size w W) := by rw [hW.out]; exact ((Below.refl _ w).alloc (Nat.le_refl _) _).alloc (by simp) _
  have h1 : W.heap[w.heap.size]? = some (.cells #[.int .i64 s.kind, .int .i64 s.frm, .int .i64 s.dst, .int .i64 s.term, .int .i64 s.idx, .int .i64 s.lterm, .int .i64 s.commit, .slice ae le ce, .bool s.ok, .int .i64 s.hint, .slice ac lc cc, .slice ad ld cd, .int .i64 s.off, .int .i64 s.size, .int .i64 s.ctx] 54 (0, 0)) := by
    rw [hW.out]
    exact (((Below.refl _ _).alloc (Nat.le_refl _) _).block w.heap.size (by simp)).trans (heap_alloc_new _ _)
  have h2 : W.heap[w.heap.size + 1]? = some (.cells #[.int .i64 t.kind, .int .i64 t.frm, .int .i64 t.dst, .int .i64 t.term, .int .i64 t.idx, .int .i64 t.lterm, .int .i64 t.commit, .slice be me de, .bool t.ok, .int .i64 t.hint, .slice bc mc dc, .slice bd md dd, .int .i64 t.off, .int .i64 t.size, .int .i64 t.ctx] 54 (0, 0)) := by rw [hW.out]; exact heap_alloc2_new _ _ _
  obtain ⟨x0, x1, x2, x3, x4, x5, x6, x7, x8, x9, x10, x11, x12, x13, x14⟩ := cells_Msg h1
  obtain ⟨y0, y1, y2, y3, y4, y5, y6, y7, y8, y9, y10, y11, y12, y13, y14⟩ := cells_Msg h2
  have H1 := hide h1
  have H2 := hide h2
  have HE : Hid (Calls Try.prog 57 #[.slice ae le ce, .slice be me de] W fun e w' => e = .returned (.bool (decide (s.ents = t.ents))) ∧ Hid (Below W.heap.size W w')) := eqEnts_any _ _ _ _ W (hae.below HB.out) (hbe.below HB.out)
  have HC : Hid (∀ u, Below W.heap.size W u → Calls Try.prog 58 #[.slice ac lc cc, .slice bc mc dc] u fun e w' => e = .returned (.bool (decide (s.conf = t.conf))) ∧ ∃ m, w' = u.drewN m) := fun u hu => eqInts_any _ _ _ _ u ((hac.below HB.out).below hu) ((hbc.below HB.out).below hu)
  obtain ⟨xa, hxa⟩ : ∃ x : ByteArray, Hid (⟨s.data.toArray⟩ = x) := ⟨_, (rfl : _ = _)⟩
  obtain ⟨xb, hxb⟩ : ∃ x : ByteArray, Hid (⟨t.data.toArray⟩ = x) := ⟨_, (rfl : _ = _)⟩
  have HA : Hid (∀ u, Below W.heap.size W u → (convert 24 9 (.slice ad ld cd)).run Try.prog u = .ok (.string xa) u) := fun u hu => conv_sl_any ((had.below HB.out).below hu) hxa.out
  have HBb : Hid (∀ u, Below W.heap.size W u → (convert 24 9 (.slice bd md dd)).run Try.prog u = .ok (.string xb) u) := fun u hu => conv_sl_any ((hbd.below HB.out).below hu) hxb.out
  have hbt := beq_tx s.data t.data
  rw [hxa.out, hxb.out] at hbt
  obtain ⟨res, hres⟩ : ∃ r, Hid (eqM s t = r) := ⟨_, (rfl : _ = _)⟩
  rw [hres.out]
  have hf : ∀ {p : Prop}, ¬ p → (s = t → p) → res = false := fun {p} hn hp => by
    rw [← hres.out, Bool.eq_false_iff]
    exact fun e => hn (hp ((eqM_iff s t).1 e))
  clear h1 h2 hae hac had hbe hbc hbd
  have e := hf c14 (fun h => by rw [h])
  subst e
  have g0 : (s.kind == t.kind) = true := by rw [beq_iff_eq]; exact c0
  have g1 : (s.frm == t.frm) = true := by rw [beq_iff_eq]; exact c1
  have g2 : (s.dst == t.dst) = true := by rw [beq_iff_eq]; exact c2
  have g3 : (s.term == t.term) = true := by rw [beq_iff_eq]; exact c3
  have g4 : (s.idx == t.idx) = true := by rw [beq_iff_eq]; exact c4
  have g5 : (s.lterm == t.lterm) = true := by rw [beq_iff_eq]; exact c5
  have g6 : (s.commit == t.commit) = true := by rw [beq_iff_eq]; exact c6
  rw [decide_eq_true c7] at HE
  have g8 : (s.ok == t.ok) = true := by rw [beq_iff_eq]; exact c8
  have g9 : (s.hint == t.hint) = true := by rw [beq_iff_eq]; exact c9
  rw [decide_eq_true c10] at HC
  rw [decide_eq_true c11] at hbt
  have g12 : (s.off == t.off) = true := by rw [beq_iff_eq]; exact c12
  have g13 : (s.size == t.size) = true := by rw [beq_iff_eq]; exact c13
  have g14 : (s.ctx == t.ctx) = false := by rw [beq_eq_false_iff_ne]; exact c14
  clear hf c0 c1 c2 c3 c4 c5 c6 c7 c8 c9 c10 c11 c12 c13 c14
  go_enter Try.func25, Try.ntmps25
  go_upto_region 1 with fail
  rw [← hW.out]
  go_wp2_with fail
  refine Calls.mono HE.out ?_
  rintro e w2 ⟨rfl, H57⟩
  have HB2 := hide (HB.out.trans (H57.out.mono HB.out.size))
  have q1 := (H57.out.block _ (lt_of_block H1.out)).trans H1.out
  have q2 := (H57.out.block _ (lt_of_block H2.out)).trans H2.out
  clear x0 x1 x2 x3 x4 x5 x6 x7 x8 x9 x10 x11 x12 x13 x14 y0 y1 y2 y3 y4 y5 y6 y7 y8 y9 y10 y11 y12 y13 y14
  obtain ⟨x0, x1, x2, x3, x4, x5, x6, x7, x8, x9, x10, x11, x12, x13, x14⟩ := cells_Msg q1
  obtain ⟨y0, y1, y2, y3, y4, y5, y6, y7, y8, y9, y10, y11, y12, y13, y14⟩ := cells_Msg q2
  have HC2 := hide (HC.out w2 H57.out)
  have Q1 := hide q1
  have Q2 := hide q2
  clear q1 q2
  go_wp2_with fail
  refine Calls.mono HC2.out ?_
  rintro e w3 ⟨rfl, m, hm⟩
  subst hm
  have HB3 := hide (HB2.out.trans ((below_drewN w2 m).mono HB2.out.size))
  clear x0 x1 x2 x3 x4 x5 x6 x7 x8 x9 x10 x11 x12 x13 x14 y0 y1 y2 y3 y4 y5 y6 y7 y8 y9 y10 y11 y12 y13 y14
  obtain ⟨x0, x1, x2, x3, x4, x5, x6, x7, x8, x9, x10, x11, x12, x13, x14⟩ := cells_Msg (show (w2.drewN m).heap[w.heap.size]? = _ from Q1.out)
  obtain ⟨y0, y1, y2, y3, y4, y5, y6, y7, y8, y9, y10, y11, y12, y13, y14⟩ := cells_Msg (show (w2.drewN m).heap[w.heap.size + 1]? = _ from Q2.out)
  have ka := HA.out _ (H57.out.trans ((below_drewN w2 m).mono H57.out.size))
  have kb := HBb.out _ (H57.out.trans ((below_drewN w2 m).mono H57.out.size))
  go_wp2_with fail
  go_ret
  exact ⟨rfl, HB3⟩

set_option maxRecDepth 8000 in
set_option maxHeartbeats 8000000 in
theorem eqMsg_15 {w : World} (s t : Mg) {ae ac ad be bc bd : Option Addr} {le ce lc cc ld cd me de mc dc md dd : Nat} (hae : Es w (.slice ae le ce) s.ents) (hac : IsR w (.slice ac lc cc) (cI s.conf)) (had : Sl w (.slice ad ld cd) s.data) (hbe : Es w (.slice be me de) t.ents) (hbc : IsR w (.slice bc mc dc) (cI t.conf)) (hbd : Sl w (.slice bd md dd) t.data) (c0 : s.kind = t.kind) (c1 : s.frm = t.frm) (c2 : s.dst = t.dst) (c3 : s.term = t.term) (c4 : s.idx = t.idx) (c5 : s.lterm = t.lterm) (c6 : s.commit = t.commit) (c7 : s.ents = t.ents) (c8 : s.ok = t.ok) (c9 : s.hint = t.hint) (c10 : s.conf = t.conf) (c11 : s.data = t.data) (c12 : s.off = t.off) (c13 : s.size = t.size) (c14 : s.ctx = t.ctx) :
    Calls Try.prog 25 #[.agg #[.int .i64 s.kind, .int .i64 s.frm, .int .i64 s.dst, .int .i64 s.term, .int .i64 s.idx, .int .i64 s.lterm, .int .i64 s.commit, .slice ae le ce, .bool s.ok, .int .i64 s.hint, .slice ac lc cc, .slice ad ld cd, .int .i64 s.off, .int .i64 s.size, .int .i64 s.ctx], .agg #[.int .i64 t.kind, .int .i64 t.frm, .int .i64 t.dst, .int .i64 t.term, .int .i64 t.idx, .int .i64 t.lterm, .int .i64 t.commit, .slice be me de, .bool t.ok, .int .i64 t.hint, .slice bc mc dc, .slice bd md dd, .int .i64 t.off, .int .i64 t.size, .int .i64 t.ctx]] w fun e w' => e = .returned (.bool (eqM s t)) ∧ Hid (Below w.heap.size w w') := by
  obtain ⟨W, hW⟩ : ∃ W, Hid (W = (w.alloc (.cells #[.int .i64 s.kind, .int .i64 s.frm, .int .i64 s.dst, .int .i64 s.term, .int .i64 s.idx, .int .i64 s.lterm, .int .i64 s.commit, .slice ae le ce, .bool s.ok, .int .i64 s.hint, .slice ac lc cc, .slice ad ld cd, .int .i64 s.off, .int .i64 s.size, .int .i64 s.ctx] 54)).alloc (.cells #[.int .i64 t.kind, .int .i64 t.frm, .int .i64 t.dst, .int .i64 t.term, .int .i64 t.idx, .int .i64 t.lterm, .int .i64 t.commit, .slice be me de, .bool t.ok, .int .i64 t.hint, .slice bc mc dc, .slice bd md dd, .int .i64 t.off, .int .i64 t.size, .int .i64 t.ctx] 54)) := ⟨_, (rfl : _ = _)⟩
  have HB : Hid (Below w.heap.size w W) := by rw [hW.out]; exact ((Below.refl _ w).alloc (Nat.le_refl _) _).alloc (by simp) _
  have h1 : W.heap[w.heap.size]? = some (.cells #[.int .i64 s.kind, .int .i64 s.frm, .int .i64 s.dst, .int .i64 s.term, .int .i64 s.idx, .int .i64 s.lterm, .int .i64 s.commit, .slice ae le ce, .bool s.ok, .int .i64 s.hint, .slice ac lc cc, .slice ad ld cd, .int .i64 s.off, .int .i64 s.size, .int .i64 s.ctx] 54 (0, 0)) := by
    rw [hW.out]
    exact (((Below.refl _ _).alloc (Nat.le_refl _) _).block w.heap.size (by simp)).trans (heap_alloc_new _ _)
  have h2 : W.heap[w.heap.size + 1]? = some (.cells #[.int .i64 t.kind, .int .i64 t.frm, .int .i64 t.dst, .int .i64 t.term, .int .i64 t.idx, .int .i64 t.lterm, .int .i64 t.commit, .slice be me de, .bool t.ok, .int .i64 t.hint, .slice bc mc dc, .slice bd md dd, .int .i64 t.off, .int .i64 t.size, .int .i64 t.ctx] 54 (0, 0)) := by rw [hW.out]; exact heap_alloc2_new _ _ _
  obtain ⟨x0, x1, x2, x3, x4, x5, x6, x7, x8, x9, x10, x11, x12, x13, x14⟩ := cells_Msg h1
  obtain ⟨y0, y1, y2, y3, y4, y5, y6, y7, y8, y9, y10, y11, y12, y13, y14⟩ := cells_Msg h2
  have H1 := hide h1
  have H2 := hide h2
  have HE : Hid (Calls Try.prog 57 #[.slice ae le ce, .slice be me de] W fun e w' => e = .returned (.bool (decide (s.ents = t.ents))) ∧ Hid (Below W.heap.size W w')) := eqEnts_any _ _ _ _ W (hae.below HB.out) (hbe.below HB.out)
  have HC : Hid (∀ u, Below W.heap.size W u → Calls Try.prog 58 #[.slice ac lc cc, .slice bc mc dc] u fun e w' => e = .returned (.bool (decide (s.conf = t.conf))) ∧ ∃ m, w' = u.drewN m) := fun u hu => eqInts_any _ _ _ _ u ((hac.below HB.out).below hu) ((hbc.below HB.out).below hu)
  obtain ⟨xa, hxa⟩ : ∃ x : ByteArray, Hid (⟨s.data.toArray⟩ = x) := ⟨_, (rfl : _ = _)⟩
  obtain ⟨xb, hxb⟩ : ∃ x : ByteArray, Hid (⟨t.data.toArray⟩ = x) := ⟨_, (rfl : _ = _)⟩
  have HA : Hid (∀ u, Below W.heap.size W u → (convert 24 9 (.slice ad ld cd)).run Try.prog u = .ok (.string xa) u) := fun u hu => conv_sl_any ((had.below HB.out).below hu) hxa.out
  have HBb : Hid (∀ u, Below W.heap.size W u → (convert 24 9 (.slice bd md dd)).run Try.prog u = .ok (.string xb) u) := fun u hu => conv_sl_any ((hbd.below HB.out).below hu) hxb.out
  have hbt := beq_tx s.data t.data
  rw [hxa.out, hxb.out] at hbt
  obtain ⟨res, hres⟩ : ∃ r, Hid (eqM s t = r) := ⟨_, (rfl : _ = _)⟩
  rw [hres.out]
  have hf : ∀ {p : Prop}, ¬ p → (s = t → p) → res = false := fun {p} hn hp => by
    rw [← hres.out, Bool.eq_false_iff]
    exact fun e => hn (hp ((eqM_iff s t).1 e))
  clear h1 h2 hae hac had hbe hbc hbd
  have e : res = true := by rw [← hres.out, eqM_iff]; cases s; cases t; simp_all
  subst e
  have g0 : (s.kind == t.kind) = true := by rw [beq_iff_eq]; exact c0
  have g1 : (s.frm == t.frm) = true := by rw [beq_iff_eq]; exact c1
  have g2 : (s.dst == t.dst) = true := by rw [beq_iff_eq]; exact c2
  have g3 : (s.term == t.term) = true := by rw [beq_iff_eq]; exact c3
  have g4 : (s.idx == t.idx) = true := by rw [beq_iff_eq]; exact c4
  have g5 : (s.lterm == t.lterm) = true := by rw [beq_iff_eq]; exact c5
  have g6 : (s.commit == t.commit) = true := by rw [beq_iff_eq]; exact c6
  rw [decide_eq_true c7] at HE
  have g8 : (s.ok == t.ok) = true := by rw [beq_iff_eq]; exact c8
  have g9 : (s.hint == t.hint) = true := by rw [beq_iff_eq]; exact c9
  rw [decide_eq_true c10] at HC
  rw [decide_eq_true c11] at hbt
  have g12 : (s.off == t.off) = true := by rw [beq_iff_eq]; exact c12
  have g13 : (s.size == t.size) = true := by rw [beq_iff_eq]; exact c13
  have g14 : (s.ctx == t.ctx) = true := by rw [beq_iff_eq]; exact c14
  clear hf c0 c1 c2 c3 c4 c5 c6 c7 c8 c9 c10 c11 c12 c13 c14
  go_enter Try.func25, Try.ntmps25
  go_upto_region 1 with fail
  rw [← hW.out]
  go_wp2_with fail
  refine Calls.mono HE.out ?_
  rintro e w2 ⟨rfl, H57⟩
  have HB2 := hide (HB.out.trans (H57.out.mono HB.out.size))
  have q1 := (H57.out.block _ (lt_of_block H1.out)).trans H1.out
  have q2 := (H57.out.block _ (lt_of_block H2.out)).trans H2.out
  clear x0 x1 x2 x3 x4 x5 x6 x7 x8 x9 x10 x11 x12 x13 x14 y0 y1 y2 y3 y4 y5 y6 y7 y8 y9 y10 y11 y12 y13 y14
  obtain ⟨x0, x1, x2, x3, x4, x5, x6, x7, x8, x9, x10, x11, x12, x13, x14⟩ := cells_Msg q1
  obtain ⟨y0, y1, y2, y3, y4, y5, y6, y7, y8, y9, y10, y11, y12, y13, y14⟩ := cells_Msg q2
  have HC2 := hide (HC.out w2 H57.out)
  have Q1 := hide q1
  have Q2 := hide q2
  clear q1 q2
  go_wp2_with fail
  refine Calls.mono HC2.out ?_
  rintro e w3 ⟨rfl, m, hm⟩
  subst hm
  have HB3 := hide (HB2.out.trans ((below_drewN w2 m).mono HB2.out.size))
  clear x0 x1 x2 x3 x4 x5 x6 x7 x8 x9 x10 x11 x12 x13 x14 y0 y1 y2 y3 y4 y5 y6 y7 y8 y9 y10 y11 y12 y13 y14
  obtain ⟨x0, x1, x2, x3, x4, x5, x6, x7, x8, x9, x10, x11, x12, x13, x14⟩ := cells_Msg (show (w2.drewN m).heap[w.heap.size]? = _ from Q1.out)
  obtain ⟨y0, y1, y2, y3, y4, y5, y6, y7, y8, y9, y10, y11, y12, y13, y14⟩ := cells_Msg (show (w2.drewN m).heap[w.heap.size + 1]? = _ from Q2.out)
  have ka := HA.out _ (H57.out.trans ((below_drewN w2 m).mono H57.out.size))
  have kb := HBb.out _ (H57.out.trans ((below_drewN w2 m).mono H57.out.size))
  go_wp2_with fail
  go_ret
  exact ⟨rfl, HB3⟩

end Go.Proofs.Ytgknpbgepgmmmaa.Cm
namespace Go.Proofs.Ytgknpbgepgmmmaa.Cm
open Go.RowKit Bn Kp

set_option maxRecDepth 8000 in
set_option maxHeartbeats 8000000 in
theorem eqMsg_any {w : World} (s t : Mg) {ae ac ad be bc bd : Option Addr} {le ce lc cc ld cd me de mc dc md dd : Nat} (hae : Es w (.slice ae le ce) s.ents) (hac : IsR w (.slice ac lc cc) (cI s.conf)) (had : Sl w (.slice ad ld cd) s.data) (hbe : Es w (.slice be me de) t.ents) (hbc : IsR w (.slice bc mc dc) (cI t.conf)) (hbd : Sl w (.slice bd md dd) t.data) :
    Calls Try.prog 25 #[.agg #[.int .i64 s.kind, .int .i64 s.frm, .int .i64 s.dst, .int .i64 s.term, .int .i64 s.idx, .int .i64 s.lterm, .int .i64 s.commit, .slice ae le ce, .bool s.ok, .int .i64 s.hint, .slice ac lc cc, .slice ad ld cd, .int .i64 s.off, .int .i64 s.size, .int .i64 s.ctx], .agg #[.int .i64 t.kind, .int .i64 t.frm, .int .i64 t.dst, .int .i64 t.term, .int .i64 t.idx, .int .i64 t.lterm, .int .i64 t.commit, .slice be me de, .bool t.ok, .int .i64 t.hint, .slice bc mc dc, .slice bd md dd, .int .i64 t.off, .int .i64 t.size, .int .i64 t.ctx]] w fun e w' => e = .returned (.bool (eqM s t)) ∧ Hid (Below w.heap.size w w') := by
  by_cases c0 : s.kind = t.kind
  · by_cases c1 : s.frm = t.frm
    · by_cases c2 : s.dst = t.dst
      · by_cases c3 : s.term = t.term
        · by_cases c4 : s.idx = t.idx
          · by_cases c5 : s.lterm = t.lterm
            · by_cases c6 : s.commit = t.commit
              · by_cases c7 : s.ents = t.ents
                · by_cases c8 : s.ok = t.ok
                  · by_cases c9 : s.hint = t.hint
                    · by_cases c10 : s.conf = t.conf
                      · by_cases c11 : s.data = t.data
                        · by_cases c12 : s.off = t.off
                          · by_cases c13 : s.size = t.size
                            · by_cases c14 : s.ctx = t.ctx
                              · exact eqMsg_15 s t hae hac had hbe hbc hbd c0 c1 c2 c3 c4 c5 c6 c7 c8 c9 c10 c11 c12 c13 c14
                              · exact eqMsg_14 s t hae hac had hbe hbc hbd c0 c1 c2 c3 c4 c5 c6 c7 c8 c9 c10 c11 c12 c13 c14
                            · exact eqMsg_13 s t hae hac had hbe hbc hbd c0 c1 c2 c3 c4 c5 c6 c7 c8 c9 c10 c11 c12 c13
                          · exact eqMsg_12 s t hae hac had hbe hbc hbd c0 c1 c2 c3 c4 c5 c6 c7 c8 c9 c10 c11 c12
                        · exact eqMsg_11 s t hae hac had hbe hbc hbd c0 c1 c2 c3 c4 c5 c6 c7 c8 c9 c10 c11
                      · exact eqMsg_10 s t hae hac had hbe hbc hbd c0 c1 c2 c3 c4 c5 c6 c7 c8 c9 c10
                    · exact eqMsg_9 s t hae hac had hbe hbc hbd c0 c1 c2 c3 c4 c5 c6 c7 c8 c9
                  · exact eqMsg_8 s t hae hac had hbe hbc hbd c0 c1 c2 c3 c4 c5 c6 c7 c8
                · exact eqMsg_7 s t hae hac had hbe hbc hbd c0 c1 c2 c3 c4 c5 c6 c7
              · exact eqMsg_6 s t hae hac had hbe hbc hbd c0 c1 c2 c3 c4 c5 c6
            · exact eqMsg_5 s t hae hac had hbe hbc hbd c0 c1 c2 c3 c4 c5
          · exact eqMsg_4 s t hae hac had hbe hbc hbd c0 c1 c2 c3 c4
        · exact eqMsg_3 s t hae hac had hbe hbc hbd c0 c1 c2 c3
      · exact eqMsg_2 s t hae hac had hbe hbc hbd c0 c1 c2
    · exact eqMsg_1 s t hae hac had hbe hbc hbd c0 c1
  · exact eqMsg_0 s t hae hac had hbe hbc hbd c0

end Go.Proofs.Ytgknpbgepgmmmaa.Cm

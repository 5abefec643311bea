/- ReadSnap. mayBe and Encode. Decode. begun: one command there and back. What reading leaves of what is still to be read. -/
import Derived.Test.YtgknpbgepgmmmaaPart06
import Derived.Lib.SlBytesConst
namespace Go.Proofs.Ytgknpbgepgmmmaa.Cm
open Go.RowKit Bn Kp

/-- What ReadSnap leaves. -/
def SnpR (w w' : World) (uc ud : Value) (s : Snp) : Prop := Below w.heap.size w w' ∧ w'.ownsRow w.heap.size 3 1 uc s.conf.length (cI s.conf) ∧ Dt w.heap.size w' ud s.data

/-- What stands when the snapshot was put together. -/
def SnpQ (w wc : World) (b A B : Nat) (st : R) (wr : Bool) (uc ud : Value) (ns : List Int) (t : List UInt8) : Prop :=
  Cr wc b A B st wr ∧ Below w.heap.size w wc ∧ wc.heap[w.heap.size]? = some (.cells #[.int .i64 0, .int .i64 0, .slice none 0 0, .slice none 0 0] 62 (0, 0)) ∧ wc.ownsRow b 3 1 uc ns.length (cI ns) ∧ Dt b wc ud t
theorem snp_last {w W : World} {b A B : Nat} {st : R} {wr : Bool} {uc ud : Value} {ns : List Int} {t : List UInt8} (h : SnpQ w W b A B st wr uc ud ns t) (o : Obj) : SnpQ w (W.alloc o) b A B st wr uc ud ns t := by
  obtain ⟨h1, h2, h3, h4, h5⟩ := h
  exact ⟨h1.alloc o, h2.alloc h2.size o, heap_alloc_kept h3 o, h4.alloc o, h5.alloc o⟩
theorem snp_set {w W : World} {b A B P : Nat} {st : R} {wr : Bool} {uc ud : Value} {ns : List Int} {t : List UInt8} {a0 a1 a2 a3 : Value} (h : SnpQ w W b A B st wr uc ud ns t) (hz : Zb b P (.cells #[a0, a1, a2, a3] 62) W) (hb : w.heap.size < b) (y0 y1 y2 y3 : Value) :
    ((((W.setCell ⟨P, 0, none⟩ y0).setCell ⟨P, 1, none⟩ y1).setCell ⟨P, 2, none⟩ y2).setCell ⟨P, 3, none⟩ y3).heap[P]? = some (.cells #[y0, y1, y2, y3] 62 (0, 0)) ∧ SnpQ w ((((W.setCell ⟨P, 0, none⟩ y0).setCell ⟨P, 1, none⟩ y1).setCell ⟨P, 2, none⟩ y2).setCell ⟨P, 3, none⟩ y3) b A B st wr uc ud ns t := by
  obtain ⟨h1, h2, h3, h4, h5⟩ := h
  obtain ⟨z1, z2⟩ := hz
  obtain ⟨s1, s2⟩ := set_Snp (b := b) y0 y1 y2 y3 z1 z2
  have hk : ∀ k, k ≠ P → ((((W.setCell ⟨P, 0, none⟩ y0).setCell ⟨P, 1, none⟩ y1).setCell ⟨P, 2, none⟩ y2).setCell ⟨P, 3, none⟩ y3).heap[k]? = W.heap[k]? := fun k hk => by
    rw [Below.heap_setCell _ _ _ _ hk, Below.heap_setCell _ _ _ _ hk, Below.heap_setCell _ _ _ _ hk, Below.heap_setCell _ _ _ _ hk]
  exact ⟨s1, h1.above s2, h2.trans (s2.mono (by omega)), by rw [hk _ (by omega)]; exact h3, own_off h4 z1 (by decide) hk, own_off h5 z1 (by decide) hk⟩

set_option maxRecDepth 4000 in
set_option maxHeartbeats 4000000 in
theorem readSnapC_any {w : World} {v : Value} {bs : List UInt8} (hS : Sl w v bs) (hl : bs.length ≤ 900000) :
    Calls Try.prog 27 #[v] w fun e w' => ∃ uc ud, e = .returned (.tuple #[.agg (okC (rSnp (some bs)).1.2 (rSnp (some bs)).2 #[.int .i64 (rSnp (some bs)).1.1.idx, .int .i64 (rSnp (some bs)).1.1.term, uc, ud] #[.int .i64 0, .int .i64 0, .slice none 0 0, .slice none 0 0]), .int .i64 (okN (rSnp (some bs)).1.2 (rSnp (some bs)).2)]) ∧ Hid (SnpR w w' uc ud (rSnp (some bs)).1.1) := by
  obtain ⟨n1, st1, e1⟩ : ∃ n s, rNum (some bs) = (n, s) := ⟨_, _, rfl⟩
  obtain ⟨n2, st2, e2⟩ : ∃ n s, rNum st1 = (n, s) := ⟨_, _, rfl⟩
  obtain ⟨ns, st3, wr, e3⟩ : ∃ ns s x, rdLs rNum 9223372036854775807 st2 false = ((ns, s), x) := ⟨_, _, _, rfl⟩
  obtain ⟨t, st4, e4⟩ : ∃ t s, rText st3 = (t, s) := ⟨_, _, rfl⟩
  have HE : Hid (rSnp (some bs) = ((⟨n1, n2, ns, t⟩, st4), wr)) := by show _ = _; simp only [rSnp, e1, e2, e3, e4]
  have g2 : goS st2 ≤ 1000000 := by
    have h1 := goS_num' (some bs)
    have h2 := goS_num' st1
    rw [e1] at h1
    rw [e2] at h2
    simp only [goS] at h1 h2 ⊢
    omega
  have E1 := hide e1
  have E2 := hide e2
  have E3 := hide e3
  have E4 := hide e4
  have G2 := hide g2
  rw [HE.out]
  dsimp only
  obtain ⟨W0, hW0⟩ : ∃ W0, Hid (W0 = w.alloc (.cells #[.int .i64 0, .int .i64 0, .slice none 0 0, .slice none 0 0] 62)) := ⟨_, (rfl : _ = _)⟩
  have HR : Hid _ := readC_any v bs W0 (by rw [hW0.out]; exact hS.alloc _) (by omega)
  have HB0 : Hid (Below w.heap.size w W0) := by rw [hW0.out]; exact (Below.refl _ _).alloc (Nat.le_refl _) _
  have HZ0 : Hid (W0.heap[w.heap.size]? = some (.cells #[.int .i64 0, .int .i64 0, .slice none 0 0, .slice none 0 0] 62 (0, 0))) := by rw [hW0.out]; exact heap_alloc_new _ _
  have HSZ : Hid (W0.heap.size = w.heap.size + 1) := by show _ = _; rw [hW0.out]; simp
  obtain ⟨ao, cap, rfl, -, -⟩ := hS.shape
  clear hS e1 e2 e3 e4 g2 hl
  go_enter Try.func27, Try.ntmps27
  go_upto_region 1 with fail
  rw [← hW0.out]
  go_wp2_with fail
  refine Calls.mono HR.out ?_
  rintro e X ⟨A, rfl, HP⟩
  obtain ⟨b, B, hC, hA, hB, hb, hbX⟩ := HP.out
  have hsz := HSZ.out
  have q : Qs b A B X (some bs) false (fun W => W.heap[w.heap.size]? = some (.cells #[.int .i64 0, .int .i64 0, .slice none 0 0, .slice none 0 0] 62 (0, 0))) X :=
    ⟨hC, Wrote.refl _ _ _, by omega, fun W' hk => by
      rw [hk.block w.heap.size (by have := hbX.size; omega) (by omega) (by simp; omega), hbX.block _ (by omega)]
      exact HZ0.out⟩
  have HBX := hide (HB0.out.trans (hbX.mono HB0.out.size))
  have hbw : w.heap.size < b := by have := hbX.size; omega
  have hA : w.heap.size ≤ A := by omega
  have hB : w.heap.size ≤ B := by omega
  clear HR HP hb hbX hC hsz
  go_upto_region 2 with fail
  go_cut [5] from 8 to 23 (fun v5 wc => ∃ (P : Nat) (ac ad : Option Addr) (lc cc ld cd : Nat), v5 = .pointer (some ⟨P, 0, none⟩) ∧ wc.heap[P]? = some (.cells #[.int .i64 n1, .int .i64 n2, .slice ac lc cc, .slice ad ld cd] 62 (0, 0)) ∧ Hid (SnpQ w wc b A B st4 wr (.slice ac lc cc) (.slice ad ld cd) ns t))
  case first =>
    have d := q.s
    refine wp_region_noPanic ?_
    go_region_held (Sx A B) (first | with_reducible exact d | with_reducible exact dd | with_reducible exact q.drew.s | with_reducible exact cell_alloc d _ | with_reducible exact (q.alloc _).drew.s | with_reducible exact (q.drew.alloc _).s | with_reducible exact (q.drew.alloc _).drew.s)
      (first
        | (go_at_call 55; first
            | (have q' := qdataQ E4.out q; (with_reducible refine Calls.mono q' ?_); clear q'; rintro e w5 ⟨ad, ld, cd, rfl, q5⟩; have d := q5.s; first
                | (have hz := q5.now.1.1.2; obtain ⟨z0, z1, z2, z3⟩ := cells_Snp hz.1; have zz := fun i => frozen_of_row w5 _ i _ _ hz.1; have dd := set4_s d (ne_type hz.1 q5.cr.at_ (by decide)) (.int .i64 n1) (.int .i64 n2) (.slice ac lc cc) (.slice ad ld cd); have HF := hide (snp_set ⟨q5.cr, HBX.out.trans (q5.fr.below HBX.out.size hA hB), q5.now.1.1.1, q5.now.1.2, q5.now.2⟩ hz hbw (.int .i64 n1) (.int .i64 n2) (.slice ac lc cc) (.slice ad ld cd)))
                | (have hq := hide (⟨q5.cr, HBX.out.trans (q5.fr.below HBX.out.size hA hB), q5.now.1.1, q5.now.1.2, q5.now.2⟩ : SnpQ w w5 b A B st4 wr (.slice ac lc cc) (.slice ad ld cd) ns t)))
            | (have q' := fun o => qdataQ E4.out (q.alloc o); (with_reducible refine Calls.mono (q' _) ?_); clear q'; rintro e w5 ⟨ad, ld, cd, rfl, q5⟩; have d := q5.s; have hz := q5.now.1.2; obtain ⟨z0, z1, z2, z3⟩ := cells_Snp hz.1; have zz := fun i => frozen_of_row w5 _ i _ _ hz.1; have dd := set4_s d (ne_type hz.1 q5.cr.at_ (by decide)) (.int .i64 n1) (.int .i64 n2) (.slice ac lc cc) (.slice ad ld cd); have HF := hide (snp_set ⟨q5.cr, HBX.out.trans (q5.fr.below HBX.out.size hA hB), q5.now.1.1.1, q5.now.1.1.2, q5.now.2⟩ hz hbw (.int .i64 n1) (.int .i64 n2) (.slice ac lc cc) (.slice ad ld cd))))
        | (go_at_call 53; first | (have q' := qidsQ E3.out G2.out q; (with_reducible refine Calls.mono q' ?_); clear q'; rintro e w4 ⟨ac, lc, cc, rfl, q⟩; have d := q.s) | (have q' := fun o => qidsQ E3.out G2.out (q.alloc o); (with_reducible refine Calls.mono (q' _) ?_); clear q'; rintro e w4 ⟨ac, lc, cc, rfl, q⟩; have d := q.s))
        | (go_at_call 35; first
            | (have q' := qnumQ E2.out q; (with_reducible refine Calls.mono q' ?_); clear q'; rintro e w3 ⟨rfl, q⟩; have d := q.s)
            | (have q' := fun o => qnumQ E2.out (q.alloc o); (with_reducible refine Calls.mono (q' _) ?_); clear q'; rintro e w3 ⟨rfl, q⟩; have d := q.s)
            | (have q' := qnumQ E1.out q.drew; (with_reducible refine Calls.mono q' ?_); clear q'; rintro e w3 ⟨rfl, q⟩; have d := q.s)
            | (have q' := fun o => qnumQ E1.out (q.alloc o).drew; (with_reducible refine Calls.mono (q' _) ?_); clear q'; rintro e w3 ⟨rfl, q⟩; have d := q.s)
            | (have q' := fun o => qnumQ E1.out (q.drew.alloc o); (with_reducible refine Calls.mono (q' _) ?_); clear q'; rintro e w3 ⟨rfl, q⟩; have d := q.s)))
    all_goals refine NoPanic.normal ?_
    all_goals go_wp2_with fail
    all_goals go_meet
    all_goals first
      | (have hf := HF.out; exact ⟨_, ac, ad, lc, cc, ld, cd, rfl, hf.1, hf.2⟩)
      | (have hf := snp_last hq.out (.cells #[.int .i64 n1, .int .i64 n2, .slice ac lc cc, .slice ad ld cd] 62); exact ⟨w5.heap.size, ac, ad, lc, cc, ld, cd, rfl, heap_alloc_new _ _, hf⟩)
  case rest =>
    obtain ⟨P, ac, ad, lc, cc, ld, cd, rfl, hP, HQ⟩ := hcut
    obtain ⟨c0, c1, c2, c3⟩ := cells_Snp hP
    have HT := hide (taken_Snp HQ.out.1 n1 n2 ac lc cc ad ld cd)
    have HF : Hid (∀ w6, Below wc.heap.size wc w6 → w6.heap[w.heap.size]? = some (.cells #[.int .i64 0, .int .i64 0, .slice none 0 0, .slice none 0 0] 62 (0, 0)) ∧ ∀ y0 y1 y2 y3, SnpR w ((((w6.setCell ⟨w.heap.size, 0, none⟩ y0).setCell ⟨w.heap.size, 1, none⟩ y1).setCell ⟨w.heap.size, 2, none⟩ y2).setCell ⟨w.heap.size, 3, none⟩ y3) (.slice ac lc cc) (.slice ad ld cd) ⟨n1, n2, ns, t⟩) := by
      intro w6 h6
      obtain ⟨-, q2, q3, q4, q5⟩ := HQ.out
      have z6 := (h6.block _ (lt_of_block q3)).trans q3
      refine ⟨z6, fun y0 y1 y2 y3 => ?_⟩
      obtain ⟨s1, s2⟩ := set_Snp (b := w.heap.size) y0 y1 y2 y3 z6 (Nat.le_refl _)
      have hk : ∀ k, k ≠ w.heap.size → ((((w6.setCell ⟨w.heap.size, 0, none⟩ y0).setCell ⟨w.heap.size, 1, none⟩ y1).setCell ⟨w.heap.size, 2, none⟩ y2).setCell ⟨w.heap.size, 3, none⟩ y3).heap[k]? = w6.heap[k]? := fun k hk => by
        rw [Below.heap_setCell _ _ _ _ hk, Below.heap_setCell _ _ _ _ hk, Below.heap_setCell _ _ _ _ hk, Below.heap_setCell _ _ _ _ hk]
      exact ⟨(q2.trans (h6.mono q2.size)).trans s2, own_low (own_off (own_below q4 h6) z6 (by decide) hk) (by omega), own_low (own_off (own_below q5 h6) z6 (by decide) hk) (by omega)⟩
    clear hP HQ q
    cases hok : okB st4 wr
    · rw [okC_f hok, okN_f hok] at HT
      have HOK := hide hok
      clear hok
      go_wp2_with fail
      refine Calls.mono HT.out ?_
      rintro e w6 ⟨rfl, hb6⟩
      have hz := (HF.out w6 hb6.out).1
      obtain ⟨z0, z1, z2, z3⟩ := cells_Snp hz
      have zz := fun i => frozen_of_row w6 _ i _ _ hz
      have HZ := hide hz
      clear HT hz
      go_wp2_with fail
      refine bodyPost_ret (ret_cell rfl _ _ w.heap.size 62 _ rfl (set_Snp (b := w.heap.size) _ _ _ _ HZ.out (Nat.le_refl _)).1 Try.underlying62 sz_Snp) rfl ?_
      refine ⟨.slice ac lc cc, .slice ad ld cd, ?_, (HF.out w6 hb6.out).2 _ _ _ _⟩
      rw [okC_f HOK.out, okN_f HOK.out]
      rfl
    · rw [okC_t hok, okN_t hok] at HT
      have HOK := hide hok
      clear hok
      go_wp2_with fail
      refine Calls.mono HT.out ?_
      rintro e w6 ⟨rfl, hb6⟩
      have hz := (HF.out w6 hb6.out).1
      obtain ⟨z0, z1, z2, z3⟩ := cells_Snp hz
      have zz := fun i => frozen_of_row w6 _ i _ _ hz
      have HZ := hide hz
      clear HT hz
      go_wp2_with fail
      refine bodyPost_ret (ret_cell rfl _ _ w.heap.size 62 _ rfl (set_Snp (b := w.heap.size) _ _ _ _ HZ.out (Nat.le_refl _)).1 Try.underlying62 sz_Snp) rfl ?_
      refine ⟨.slice ac lc cc, .slice ad ld cd, ?_, (HF.out w6 hb6.out).2 _ _ _ _⟩
      rw [okC_t HOK.out, okN_t HOK.out]
      rfl
end Go.Proofs.Ytgknpbgepgmmmaa.Cm
namespace Go.Proofs.Ytgknpbgepgmmmaa.Cm
open Go.RowKit Bn Kp

/-- Which commands may be. -/
def mayB (k c q : Int) (n : Nat) : Bool := decide (1 ≤ k ∧ k ≤ 4 ∧ 1 ≤ c ∧ c ≤ 8 ∧ 1 ≤ q ∧ q ≤ 1099511627776 ∧ (n : Int) ≤ 4000)
theorem mayB_iff (k c q : Int) (n : Nat) : mayB k c q n = true ↔ (1 ≤ k ∧ k ≤ 4 ∧ 1 ≤ c ∧ c ≤ 8 ∧ 1 ≤ q ∧ q ≤ 1099511627776 ∧ (n : Int) ≤ 4000) := by simp [mayB]
theorem tx_size (t : List UInt8) : (⟨t.toArray⟩ : ByteArray).size = t.length := tx_data t

set_option maxRecDepth 4000 in
set_option maxHeartbeats 2000000 in
theorem mayBe_any (k c q : Int) (t : ByteArray) (w : World) :
    Calls Try.prog 30 #[.agg #[.int .i64 k, .int .i64 c, .int .i64 q, .string t]] w fun e w' => e = .returned (.bool (mayB k c q t.size)) ∧ Hid (Below w.heap.size w w') := by
  have HB := hide ((Below.refl _ w).alloc (Nat.le_refl _) (.cells #[.int .i64 k, .int .i64 c, .int .i64 q, .string t] 23))
  obtain ⟨m, hm⟩ : ∃ m, Hid (mayB k c q t.size = m) := ⟨_, (rfl : _ = _)⟩
  rw [hm.out]
  have hc : (m = false ∧ (¬ 1 ≤ k ∨ (1 ≤ k ∧ ¬ k ≤ 4) ∨ (1 ≤ k ∧ k ≤ 4 ∧ ¬ 1 ≤ c) ∨ (1 ≤ k ∧ k ≤ 4 ∧ 1 ≤ c ∧ ¬ c ≤ 8) ∨ (1 ≤ k ∧ k ≤ 4 ∧ 1 ≤ c ∧ c ≤ 8 ∧ ¬ 1 ≤ q) ∨ (1 ≤ k ∧ k ≤ 4 ∧ 1 ≤ c ∧ c ≤ 8 ∧ 1 ≤ q ∧ ¬ q ≤ 1099511627776) ∨ (1 ≤ k ∧ k ≤ 4 ∧ 1 ≤ c ∧ c ≤ 8 ∧ 1 ≤ q ∧ q ≤ 1099511627776 ∧ ¬ (t.size : Int) ≤ 4000))) ∨ (m = true ∧ (1 ≤ k ∧ k ≤ 4 ∧ 1 ≤ c ∧ c ≤ 8 ∧ 1 ≤ q ∧ q ≤ 1099511627776 ∧ (t.size : Int) ≤ 4000)) := by
    have h := mayB_iff k c q t.size
    rw [hm.out] at h
    cases m
    · left
      refine ⟨rfl, ?_⟩
      have h' : ¬ (1 ≤ k ∧ k ≤ 4 ∧ 1 ≤ c ∧ c ≤ 8 ∧ 1 ≤ q ∧ q ≤ 1099511627776 ∧ (t.size : Int) ≤ 4000) := fun x => Bool.false_ne_true (h.2 x)
      clear h
      omega
    · exact Or.inr ⟨rfl, h.1 rfl⟩
  rcases hc with ⟨rfl, h1 | ⟨h1, h2⟩ | ⟨h1, h2, h3⟩ | ⟨h1, h2, h3, h4⟩ | ⟨h1, h2, h3, h4, h5⟩ | ⟨h1, h2, h3, h4, h5, h6⟩ | ⟨h1, h2, h3, h4, h5, h6, h7⟩⟩ | ⟨rfl, h1, h2, h3, h4, h5, h6, h7⟩
  all_goals
    go_enter Try.func30, Try.ntmps30
    go_wp2_with fail
    go_ret
    exact ⟨rfl, HB.out⟩

/-- A command's bytes. -/
def encC (k c q : Int) (t : List UInt8) : List UInt8 := enc k ++ (enc c ++ (enc q ++ encT t))

set_option maxRecDepth 4000 in
set_option maxHeartbeats 2000000 in
theorem encode_no (k c q : Int) (t : ByteArray) (w : World) (hm : mayB k c q t.size = false) :
    Calls Try.prog 10 #[.agg #[.int .i64 k, .int .i64 c, .int .i64 q, .string t]] w fun e w' => e = .returned (.tuple #[.slice none 0 0, .int .i64 3]) ∧ Hid (Below w.heap.size w w') := by
  have HB := hide ((Below.refl _ w).alloc (Nat.le_refl _) (.cells #[.int .i64 k, .int .i64 c, .int .i64 q, .string t] 23))
  have HM := hide (mayBe_any k c q t (w.alloc (.cells #[.int .i64 k, .int .i64 c, .int .i64 q, .string t] 23)))
  rw [hm] at HM
  clear hm
  go_enter Try.func10, Try.ntmps10
  go_wp2_with fail
  refine Calls.mono HM.out ?_
  rintro e w1 ⟨rfl, hb⟩
  go_wp2_with fail
  go_ret2
  exact ⟨rfl, HB.out.trans (hb.out.mono HB.out.size)⟩

set_option maxRecDepth 4000 in
set_option maxHeartbeats 2000000 in
theorem encode_yes (k c q : Int) (t : List UInt8) (w : World) (hm : mayB k c q t.length = true) :
    Calls Try.prog 10 #[.agg #[.int .i64 k, .int .i64 c, .int .i64 q, tx t]] w fun e w' => ∃ ao L cap, e = .returned (.tuple #[.slice ao L cap, .int .i64 0]) ∧ Hid (Own8 w w' (.slice ao L cap) (encC k c q t)) := by
  have HB := hide ((Below.refl _ w).alloc (Nat.le_refl _) (.cells #[.int .i64 k, .int .i64 c, .int .i64 q, tx t] 23))
  have HM := hide (mayBe_any k c q ⟨t.toArray⟩ (w.alloc (.cells #[.int .i64 k, .int .i64 c, .int .i64 q, tx t] 23)))
  rw [tx_size, hm] at HM
  obtain ⟨m1, m2, m3, m4, m5, m6, m7⟩ := (mayB_iff _ _ _ _).1 hm
  have hx : (w.alloc (.cells #[.int .i64 k, .int .i64 c, .int .i64 q, tx t] 23)).heap[w.heap.size]? = some (.cells #[.int .i64 k, .int .i64 c, .int .i64 q, tx t] 23 (0, 0)) := heap_alloc_new _ _
  have HX := hide hx
  have K1 : Hid (I64 k) := ⟨by omega, by omega⟩
  have K2 : Hid (I64 c) := ⟨by omega, by omega⟩
  have K3 : Hid (I64 q) := ⟨by omega, by omega⟩
  have K4 : Hid (t.length ≤ 4000) := by show _ ≤ _; omega
  clear hm m1 m2 m3 m4 m5 m6 m7 hx
  go_enter Try.func10, Try.ntmps10
  go_wp2_with fail
  refine Calls.mono HM.out ?_
  rintro e w1 ⟨rfl, hb⟩
  have HX1 := hide ((hb.out.block _ (lt_of_block HX.out)).trans HX.out)
  have HB1 := hide (HB.out.trans (hb.out.mono HB.out.size))
  have H0 := hide (wk_new w1 w1.heap.size rfl)
  clear HM hb
  obtain ⟨x0, x1, x2, x3⟩ := cells_Cmd HX1.out
  have y0 := H0.out.cell x0
  go_wp2_with fail
  refine Calls.mono (wk_num H0.out k K1.out (by omega)) ?_
  rintro e w2 ⟨rfl, H1⟩
  have y1 := H1.out.cell x1
  clear H0 y0
  go_wp2_with fail
  refine Calls.mono (wk_num H1.out c K2.out (by omega)) ?_
  rintro e w3 ⟨rfl, H2⟩
  have y2 := H2.out.cell x2
  clear H1 y1
  go_wp2_with fail
  refine Calls.mono (wk_num H2.out q K3.out (by omega)) ?_
  rintro e w4 ⟨rfl, H3⟩
  have y3 := H3.out.cell x3
  clear H2 y2
  obtain ⟨cap, w5, hr, HS⟩ := conv_sl w4 t (by have := K4.out; omega)
  have HT : Hid _ := wb_textN H3.out.2.1 HS.out.2 (Nat.le_refl _) HS.out.1 (by have h1 := K4.out; have h2 := H3.out.2.2; omega)
  go_wp2_with fail
  refine Calls.mono HT.out ?_
  rintro e w6 ⟨rfl, H6⟩
  have HW6 : Hid (Wk w1 w6 w1.heap.size ([] ++ enc k ++ enc c ++ enc q ++ encT t) 5000) := ⟨rfl, H6.out, by
    have h1 := K4.out
    have h2 := H3.out.2.2
    have h3 := enc_le t.length
    simp only [List.length_append, encT] at h2 ⊢
    omega⟩
  clear HT H3 y3 hr
  go_wp2_with fail
  refine Calls.mono (wk_bytes HW6.out (by omega) HB1.out) ?_
  rintro e we ⟨ao, L, cap, rfl, HP⟩
  go_wp2_with fail
  go_ret2
  refine ⟨_, _, _, rfl, ?_⟩
  show Own8 _ _ _ _
  have hp := HP.out
  simpa only [encC, List.nil_append, List.append_assoc] using hp

end Go.Proofs.Ytgknpbgepgmmmaa.Cm
namespace Go.Proofs.Ytgknpbgepgmmmaa.Cm
open Go.RowKit Bn Kp

/-- What stands when the command was put together. -/
def CmdQ (w wc : World) (b A B : Nat) (st : R) (wr : Bool) : Prop :=
  Cr wc b A B st wr ∧ Below w.heap.size w wc ∧ wc.heap[w.heap.size]? = some (.cells #[.int .i64 0, .int .i64 0, .int .i64 0, .string ⟨#[]⟩] 23 (0, 0))
theorem cmd_last {w W : World} {b A B : Nat} {st : R} {wr : Bool} (h : CmdQ w W b A B st wr) (o : Obj) : CmdQ w (W.alloc o) b A B st wr := by
  obtain ⟨h1, h2, h3⟩ := h
  exact ⟨h1.alloc o, h2.alloc h2.size o, heap_alloc_kept h3 o⟩
theorem cmd_set {w W : World} {b A B P : Nat} {st : R} {wr : Bool} {a0 a1 a2 a3 : Value} (h : CmdQ w W b A B st wr) (hz : Zb b P (.cells #[a0, a1, a2, a3] 23) W) (hb : w.heap.size < b) (y0 y1 y2 y3 : Value) :
    ((((W.setCell ⟨P, 0, none⟩ y0).setCell ⟨P, 1, none⟩ y1).setCell ⟨P, 2, none⟩ y2).setCell ⟨P, 3, none⟩ y3).heap[P]? = some (.cells #[y0, y1, y2, y3] 23 (0, 0)) ∧ CmdQ w ((((W.setCell ⟨P, 0, none⟩ y0).setCell ⟨P, 1, none⟩ y1).setCell ⟨P, 2, none⟩ y2).setCell ⟨P, 3, none⟩ y3) b A B st wr := by
  obtain ⟨h1, h2, h3⟩ := h
  obtain ⟨z1, z2⟩ := hz
  obtain ⟨s1, s2⟩ := set_Cmd (b := b) y0 y1 y2 y3 z1 z2
  have hk : ∀ k, k ≠ P → ((((W.setCell ⟨P, 0, none⟩ y0).setCell ⟨P, 1, none⟩ y1).setCell ⟨P, 2, none⟩ y2).setCell ⟨P, 3, none⟩ y3).heap[k]? = W.heap[k]? := fun k hk => by
    rw [Below.heap_setCell _ _ _ _ hk, Below.heap_setCell _ _ _ _ hk, Below.heap_setCell _ _ _ _ hk, Below.heap_setCell _ _ _ _ hk]
  exact ⟨s1, h1.above s2, h2.trans (s2.mono (by omega)), by rw [hk _ (by omega)]; exact h3⟩

/-- How a command is read. -/
def rCmd (st : R) : (Int × Int × Int × List UInt8) × R :=
  let a := rNum st
  let c := rNum a.2
  let d := rNum c.2
  let e := rText d.2
  ((a.1, c.1, d.1, e.1), e.2)
def mayR (x : Int × Int × Int × List UInt8) : Bool := mayB x.1 x.2.1 x.2.2.1 x.2.2.2.length

theorem conv_T {w : World} {v : Value} {t : List UInt8} {T : ByteArray} {b : Nat} (h : w.ownsRow b 5 1 v t.length (cells8 t)) (hT : (⟨t.toArray⟩ : ByteArray) = T) : (convert 24 9 v).run Try.prog w = .ok (.string T) w := by
  have := str_of_sl (P := Try.prog) (Sl.of_own h) 24 5 9 Try.underlying24 Try.underlying5 Try.underlying9
  rw [hT] at this
  exact this

set_option maxRecDepth 4000 in
set_option maxHeartbeats 4000000 in
theorem decode_any {w : World} {v : Value} {bs : List UInt8} (hS : Sl w v bs) (hl : bs.length ≤ 900000) :
    Calls Try.prog 15 #[v] w fun e w' => e = .returned (.tuple #[.agg (okC (rCmd (some bs)).2 (!mayR (rCmd (some bs)).1) #[.int .i64 (rCmd (some bs)).1.1, .int .i64 (rCmd (some bs)).1.2.1, .int .i64 (rCmd (some bs)).1.2.2.1, tx (rCmd (some bs)).1.2.2.2] #[.int .i64 0, .int .i64 0, .int .i64 0, .string ⟨#[]⟩]), .int .i64 (okN (rCmd (some bs)).2 (!mayR (rCmd (some bs)).1))]) ∧ Hid (Below w.heap.size w w') := by
  obtain ⟨n1, st1, e1⟩ : ∃ n s, rNum (some bs) = (n, s) := ⟨_, _, rfl⟩
  obtain ⟨n2, st2, e2⟩ : ∃ n s, rNum st1 = (n, s) := ⟨_, _, rfl⟩
  obtain ⟨n3, st3, e3⟩ : ∃ n s, rNum st2 = (n, s) := ⟨_, _, rfl⟩
  obtain ⟨t, st4, e4⟩ : ∃ t s, rText st3 = (t, s) := ⟨_, _, rfl⟩
  have HE : Hid (rCmd (some bs) = ((n1, n2, n3, t), st4)) := by show _ = _; simp only [rCmd, e1, e2, e3, e4]
  have E1 := hide e1
  have E2 := hide e2
  have E3 := hide e3
  have E4 := hide e4
  rw [HE.out]
  obtain ⟨m, hm⟩ : ∃ m, Hid (mayR (n1, n2, n3, t) = m) := ⟨_, (rfl : _ = _)⟩
  rw [hm.out]
  dsimp only
  obtain ⟨T, hT⟩ : ∃ T : ByteArray, Hid (⟨t.toArray⟩ = T) := ⟨_, (rfl : _ = _)⟩
  rw [tx, hT.out]
  obtain ⟨W0, hW0⟩ : ∃ W0, Hid (W0 = w.alloc (.cells #[.int .i64 0, .int .i64 0, .int .i64 0, .string ⟨#[]⟩] 23)) := ⟨_, (rfl : _ = _)⟩
  have HR : Hid _ := readC_any v bs W0 (by rw [hW0.out]; exact hS.alloc _) (by omega)
  have HB0 : Hid (Below w.heap.size w W0) := by rw [hW0.out]; exact (Below.refl _ _).alloc (Nat.le_refl _) _
  have HZ0 : Hid (W0.heap[w.heap.size]? = some (.cells #[.int .i64 0, .int .i64 0, .int .i64 0, .string ⟨#[]⟩] 23 (0, 0))) := by rw [hW0.out]; exact heap_alloc_new _ _
  have HSZ : Hid (W0.heap.size = w.heap.size + 1) := by show _ = _; rw [hW0.out]; simp
  obtain ⟨ao, cap, rfl, -, -⟩ := hS.shape
  clear hS e1 e2 e3 e4 hl
  go_enter Try.func15, Try.ntmps15
  go_upto_region 1 with fail
  rw [← hW0.out]
  go_wp2_with fail
  refine Calls.mono HR.out ?_
  rintro e X ⟨A, rfl, HP⟩
  obtain ⟨b, B, hC, hA, hB, hb, hbX⟩ := HP.out
  have hsz := HSZ.out
  have q : Qs b A B X (some bs) false (fun W => W.heap[w.heap.size]? = some (.cells #[.int .i64 0, .int .i64 0, .int .i64 0, .string ⟨#[]⟩] 23 (0, 0))) X :=
    ⟨hC, Wrote.refl _ _ _, by omega, fun W' hk => by
      rw [hk.block w.heap.size (by have := hbX.size; omega) (by omega) (by simp; omega), hbX.block _ (by omega)]
      exact HZ0.out⟩
  have HBX := hide (HB0.out.trans (hbX.mono HB0.out.size))
  have hbw : w.heap.size < b := by have := hbX.size; omega
  have hA : w.heap.size ≤ A := by omega
  have hB : w.heap.size ≤ B := by omega
  have hA0 : w.heap.size < A := by omega
  have hB0 : w.heap.size < B := by omega
  clear HR HP hb hbX hC hsz
  go_upto_region 2 with fail
  go_cut [5] from 8 to 30 (fun v5 wc => ∃ (P : Nat), v5 = .pointer (some ⟨P, 0, none⟩) ∧ wc.heap[P]? = some (.cells #[.int .i64 n1, .int .i64 n2, .int .i64 n3, .string T] 23 (0, 0)) ∧ Hid (CmdQ w wc b A B st4 false))
  case first =>
    have d := q.s
    refine wp_region_noPanic ?_
    go_region_held (Sx A B) (first | with_reducible exact d | with_reducible exact dd | with_reducible exact q.drew.s | with_reducible exact cell_alloc d _ | with_reducible exact (q.alloc _).drew.s | with_reducible exact (q.drew.alloc _).s | with_reducible exact (q.drew.alloc _).drew.s)
      (first
        | (go_at_call 36; first
            | (have q' := qtextQ E4.out q; (with_reducible refine Calls.mono q' ?_); clear q'; rintro e w5 ⟨ad, ld, cd, rfl, q5⟩; have d := q5.s; have hs := conv_T (by exact q5.now.2) hT.out; have hsa := fun o => conv_T (w := w5.alloc o) (by exact q5.now.2.alloc o) hT.out; first
                | (have hz := q5.now.1.2; obtain ⟨z0, z1, z2, z3⟩ := cells_Cmd hz.1; have zz := fun i => frozen_of_row w5 _ i _ _ hz.1; have dd := set4_s d (ne_type hz.1 q5.cr.at_ (by decide)) (.int .i64 n1) (.int .i64 n2) (.int .i64 n3) (.string T); have HF := hide (cmd_set ⟨q5.cr, HBX.out.trans (q5.fr.below HBX.out.size hA hB), q5.now.1.1⟩ hz hbw (.int .i64 n1) (.int .i64 n2) (.int .i64 n3) (.string T)))
                | (have hq := hide (⟨q5.cr, HBX.out.trans (q5.fr.below HBX.out.size hA hB), q5.now.1⟩ : CmdQ w w5 b A B st4 false)))
            | (have q' := fun o => qtextQ E4.out (q.alloc o); (with_reducible refine Calls.mono (q' _) ?_); clear q'; rintro e w5 ⟨ad, ld, cd, rfl, q5⟩; have d := q5.s; have hs := conv_T (by exact q5.now.2) hT.out; have hz := q5.now.1.2; obtain ⟨z0, z1, z2, z3⟩ := cells_Cmd hz.1; have zz := fun i => frozen_of_row w5 _ i _ _ hz.1; have dd := set4_s d (ne_type hz.1 q5.cr.at_ (by decide)) (.int .i64 n1) (.int .i64 n2) (.int .i64 n3) (.string T); have HF := hide (cmd_set ⟨q5.cr, HBX.out.trans (q5.fr.below HBX.out.size hA hB), q5.now.1.1⟩ hz hbw (.int .i64 n1) (.int .i64 n2) (.int .i64 n3) (.string T))))
        | (go_at_call 35; first
            | (have q' := qnumQ E3.out q; (with_reducible refine Calls.mono q' ?_); clear q'; rintro e w3 ⟨rfl, q⟩; have d := q.s)
            | (have q' := fun o => qnumQ E3.out (q.alloc o); (with_reducible refine Calls.mono (q' _) ?_); clear q'; rintro e w3 ⟨rfl, q⟩; have d := q.s)
            | (have q' := qnumQ E2.out q; (with_reducible refine Calls.mono q' ?_); clear q'; rintro e w3 ⟨rfl, q⟩; have d := q.s)
            | (have q' := fun o => qnumQ E2.out (q.alloc o); (with_reducible refine Calls.mono (q' _) ?_); clear q'; rintro e w3 ⟨rfl, q⟩; have d := q.s)
            | (have q' := qnumQ E1.out q.drew; (with_reducible refine Calls.mono q' ?_); clear q'; rintro e w3 ⟨rfl, q⟩; have d := q.s)
            | (have q' := fun o => qnumQ E1.out (q.alloc o).drew; (with_reducible refine Calls.mono (q' _) ?_); clear q'; rintro e w3 ⟨rfl, q⟩; have d := q.s)
            | (have q' := fun o => qnumQ E1.out (q.drew.alloc o); (with_reducible refine Calls.mono (q' _) ?_); clear q'; rintro e w3 ⟨rfl, q⟩; have d := q.s)))
    all_goals refine NoPanic.normal ?_
    all_goals go_wp2_with fail
    all_goals go_meet
    all_goals first
      | (have hf := HF.out; exact ⟨_, rfl, hf.1, hf.2⟩)
      | (have hf := cmd_last hq.out (.cells #[.int .i64 n1, .int .i64 n2, .int .i64 n3, .string T] 23); exact ⟨w5.heap.size, rfl, heap_alloc_new _ _, hf⟩)
  case rest =>
    obtain ⟨P, rfl, hP, HQ⟩ := hcut
    obtain ⟨c0, c1, c2, c3⟩ := cells_Cmd hP
    have HM := hide (mayBe_any n1 n2 n3 T wc)
    have hm2 : mayB n1 n2 n3 T.size = m := by rw [← hT.out, tx_size]; exact hm.out
    rw [hm2] at HM
    clear hm2 q
    have HP := hide hP
    clear hP
    go_wp2_with fail
    refine Calls.mono HM.out ?_
    rintro e w2 ⟨rfl, hb2⟩
    have C2 := HQ.out.1.kept hb2.out
    have HU := hide (must_any C2 m)
    clear HM
    go_wp2_with fail
    refine Calls.mono HU.out ?_
    rintro e w3 ⟨rfl, HP3⟩
    have C3 := HP3.out.1
    rw [Bool.false_or] at C3
    have HP32 := hide HP3.out.2
    have hPA := ne_type HP.out HQ.out.1.at_ (by decide)
    have hPB : P ≠ B := by
      obtain ⟨_, hBB, _⟩ := HQ.out.1.q
      exact ne_type HP.out hBB (by decide)
    have hP3 := (HP32.out.block P (Nat.lt_of_lt_of_le (lt_of_block HP.out) hb2.out.size) hPB (by simpa using hPA)).trans ((hb2.out.block P (lt_of_block HP.out)).trans HP.out)
    have hZ3 := (HP32.out.block w.heap.size (Nat.lt_of_lt_of_le (lt_of_block HQ.out.2.2) hb2.out.size) (fun e => by rw [← e] at hB0; omega) (by simp; omega)).trans ((hb2.out.block _ (lt_of_block HQ.out.2.2)).trans HQ.out.2.2)
    have HB3 := hide (HQ.out.2.1.trans ((hb2.out.mono HQ.out.2.1.size).trans (HP32.out.below (Nat.le_trans HQ.out.2.1.size hb2.out.size) hA hB)))
    obtain ⟨d0, d1, d2, d3⟩ := cells_Cmd hP3
    have HT := hide (taken_Cmd C3 n1 n2 n3 T)
    have HF : Hid (∀ w6, Below w3.heap.size w3 w6 → w6.heap[w.heap.size]? = some (.cells #[.int .i64 0, .int .i64 0, .int .i64 0, .string ⟨#[]⟩] 23 (0, 0)) ∧ ∀ y0 y1 y2 y3, Below w.heap.size w ((((w6.setCell ⟨w.heap.size, 0, none⟩ y0).setCell ⟨w.heap.size, 1, none⟩ y1).setCell ⟨w.heap.size, 2, none⟩ y2).setCell ⟨w.heap.size, 3, none⟩ y3)) := by
      intro w6 h6
      have z6 := (h6.block _ (lt_of_block hZ3)).trans hZ3
      refine ⟨z6, fun y0 y1 y2 y3 => ?_⟩
      obtain ⟨s1, s2⟩ := set_Cmd (b := w.heap.size) y0 y1 y2 y3 z6 (Nat.le_refl _)
      exact (HB3.out.trans (h6.mono HB3.out.size)).trans s2
    clear hP3 hZ3 HU HP3 c0 c1 c2 c3 hPA hPB C2 C3
    cases hok : okB st4 (!m)
    · rw [okC_f hok, okN_f hok] at HT
      have HOK := hide hok
      clear hok
      go_wp2_with fail
      refine Calls.mono HT.out ?_
      rintro e w6 ⟨rfl, hb6⟩
      have hz := (HF.out w6 hb6.out).1
      obtain ⟨z0, z1, z2, z3⟩ := cells_Cmd hz
      have zz := fun i => frozen_of_row w6 _ i _ _ hz
      have HZ := hide hz
      clear HT hz
      go_wp2_with fail
      refine bodyPost_ret (ret_cell rfl _ _ w.heap.size 23 _ rfl (set_Cmd (b := w.heap.size) _ _ _ _ HZ.out (Nat.le_refl _)).1 Try.underlying23 sz_Cmd) rfl ?_
      refine ⟨?_, (HF.out w6 hb6.out).2 _ _ _ _⟩
      rw [okC_f HOK.out, okN_f HOK.out]
      rfl
    · rw [okC_t hok, okN_t hok] at HT
      have HOK := hide hok
      clear hok
      go_wp2_with fail
      refine Calls.mono HT.out ?_
      rintro e w6 ⟨rfl, hb6⟩
      have hz := (HF.out w6 hb6.out).1
      obtain ⟨z0, z1, z2, z3⟩ := cells_Cmd hz
      have zz := fun i => frozen_of_row w6 _ i _ _ hz
      have HZ := hide hz
      clear HT hz
      go_wp2_with fail
      refine bodyPost_ret (ret_cell rfl _ _ w.heap.size 23 _ rfl (set_Cmd (b := w.heap.size) _ _ _ _ HZ.out (Nat.le_refl _)).1 Try.underlying23 sz_Cmd) rfl ?_
      refine ⟨?_, (HF.out w6 hb6.out).2 _ _ _ _⟩
      rw [okC_t HOK.out, okN_t HOK.out]
      rfl
end Go.Proofs.Ytgknpbgepgmmmaa.Cm
namespace Go.Proofs.Ytgknpbgepgmmmaa.Cm
open Go.RowKit Bn Kp

theorem decode_yes {w : World} {v : Value} {bs : List UInt8} (hS : Sl w v bs) (hl : bs.length ≤ 900000) {k c q : Int} {t : List UInt8} (h : rCmd (some bs) = ((k, c, q, t), some [])) (hm : mayB k c q t.length = true) :
    Calls Try.prog 15 #[v] w fun e w' => e = .returned (.tuple #[.agg #[.int .i64 k, .int .i64 c, .int .i64 q, tx t], .int .i64 0]) ∧ Hid (Below w.heap.size w w') := by
  have H := decode_any hS hl
  have hm' : mayR (k, c, q, t) = true := hm
  rw [h] at H
  dsimp only at H
  rw [hm', okC_t (by rfl), okN_t (by rfl)] at H
  exact H
theorem decode_no {w : World} {v : Value} {bs : List UInt8} (hS : Sl w v bs) (hl : bs.length ≤ 900000) (h : okB (rCmd (some bs)).2 (!mayR (rCmd (some bs)).1) = false) :
    Calls Try.prog 15 #[v] w fun e w' => e = .returned (.tuple #[.agg #[.int .i64 0, .int .i64 0, .int .i64 0, .string ⟨#[]⟩], .int .i64 3]) ∧ Hid (Below w.heap.size w w') := by
  have H := decode_any hS hl
  rw [okC_f h, okN_f h] at H
  exact H

theorem sl_four (w : World) (a b c d : UInt8) : Sl (w.alloc (.cells #[.int .u8 (a.toNat : Int), .int .u8 (b.toNat : Int), .int .u8 (c.toNat : Int), .int .u8 (d.toNat : Int)] 5 (4, 5))) (.slice (some ⟨w.heap.size, 0, none⟩) 4 4) [a, b, c, d] :=
  ⟨_, 4, rfl, Nat.le_refl _, by simp [maxLen], fun e => by simp at e, fun _ => ⟨w.heap.size, 0, rfl, fun j hj => by
    rw [cell_of_row _ _ _ _ _ _ (heap_alloc_new _ _)]
    match j, hj with
    | 0, _ => rfl
    | 1, _ => rfl
    | 2, _ => rfl
    | 3, _ => rfl⟩⟩

set_option maxRecDepth 4000 in
set_option maxHeartbeats 2000000 in
theorem begun_any (w : World) : Calls Try.prog 8 #[] w fun e w' => e = .returned (.bool true) ∧ Hid (Below w.heap.size w w') := by
  have HE := hide (encode_yes 2 2 7 [112] w (by decide))
  rw [show encC 2 2 7 [112] = [4, 4, 14, 2, 112] by decide] at HE
  go_enter Try.func8, Try.ntmps8
  go_wp2_with fail
  refine Calls.mono HE.out ?_
  rintro e w1 ⟨ao, L, cap, rfl, HO⟩
  clear HE
  have HD := hide (decode_yes (Sl.of_own HO.out.1) (by decide) (k := 2) (c := 2) (q := 7) (t := [112]) (by decide) (by decide))
  go_wp2_with fail
  refine Calls.mono HD.out ?_
  rintro e w2 ⟨rfl, HB2⟩
  clear HD
  have HBw2 := hide (HO.out.2.trans (HB2.out.mono HO.out.2.size))
  obtain ⟨w3, hw3⟩ : ∃ w3, Hid (w3 = w2.alloc (.cells #[.int .i64 2, .int .i64 2, .int .i64 7, .string ⟨#[112]⟩] 23)) := ⟨_, (rfl : _ = _)⟩
  have HC3 : Hid (w3.heap[w2.heap.size]? = some (.cells #[.int .i64 2, .int .i64 2, .int .i64 7, .string ⟨#[112]⟩] 23 (0, 0))) := by rw [hw3.out]; exact heap_alloc_new _ _
  have HS3 : Hid (Sl w3 (.slice ao L cap) [4, 4, 14, 2, 112]) := by rw [hw3.out]; exact ((Sl.of_own HO.out.1).below HB2.out).alloc _
  have HBw3 : Hid (Below w.heap.size w w3) := by rw [hw3.out]; exact HBw2.out.alloc HBw2.out.size _
  have hcv := Lib.run_convert_bytes_const (P := Try.prog) w3 24 5 #[.int .u8 106, .int .u8 117, .int .u8 110, .int .u8 107] 4 4 Try.underlying24 Try.underlying5
  clear HO HB2 HBw2
  go_upto_region 3 with fail
  rw [show w2.alloc (.cells #[.int .i64 2, .int .i64 2, .int .i64 7, .string ⟨[112].toArray⟩] 23) = w3 from hw3.out.symm]
  go_wp2_with fail
  have hcvd := hcv
  clear hcv
  have HD2 : Hid _ := decode_no (sl_four w3 106 117 110 107) (by decide) (by decide)
  refine Calls.mono HD2.out ?_
  rintro e w4 ⟨rfl, HB4⟩
  have hb34 : Below w3.heap.size w3 w4 := ((Below.refl _ w3).alloc (Nat.le_refl _) (.cells #[.int .u8 106, .int .u8 117, .int .u8 110, .int .u8 107] 5 (4, 5))).trans (HB4.out.mono (by simp))
  obtain ⟨w5, hw5⟩ : ∃ w5, Hid (w5 = w4.alloc (.cells #[.int .i64 0, .int .i64 0, .int .i64 0, .string ⟨#[]⟩] 23)) := ⟨_, (rfl : _ = _)⟩
  have hb35 : Below w3.heap.size w3 w5 := by rw [hw5.out]; exact hb34.alloc hb34.size _
  have hc5 := (hb35.block _ (lt_of_block HC3.out)).trans HC3.out
  obtain ⟨c0, c1, c2, c3⟩ := cells_Cmd hc5
  have hs := str_of_sl (P := Try.prog) (HS3.out.below hb35) 24 5 9 Try.underlying24 Try.underlying5 Try.underlying9
  have HBe := hide (HBw3.out.trans (hb35.mono HBw3.out.size))
  clear HD2 hb34 hb35 hc5 HB4 HC3 HS3 HBw3
  go_upto_region 4 with fail
  rw [← hw5.out]
  go_wp2_with fail
  go_ret
  exact ⟨rfl, HBe.out⟩

end Go.Proofs.Ytgknpbgepgmmmaa.Cm
namespace Go.Proofs.Ytgknpbgepgmmmaa.Cm
open Go.RowKit Bn Kp

theorem goS_flag (st : R) : goS (rFlag st).2 ≤ goS st := by
  match st with
  | none => exact Nat.le_refl _
  | some [] => simp [rFlag, goS]
  | some (c :: r) =>
    simp only [rFlag]
    split <;> simp [goS]
theorem goS_rdL {α : Type} (one : R → α × R) (ho : ∀ l, goS (one (some l)).2 ≤ goS (some l)) (wr : Bool) : ∀ (n : Nat) (st : R), goS (rdL one wr n st).2 ≤ goS st
  | 0, st => Nat.le_refl _
  | n + 1, none => Nat.le_refl _
  | n + 1, some l => by
    cases wr
    · have h1 := goS_rdL one ho false n (one (some l)).2
      have h2 := ho l
      show goS (rdL one false n (one (some l)).2).2 ≤ _
      omega
    · exact Nat.le_refl _
theorem goS_rdLs {α : Type} (one : R → α × R) (ho : ∀ l, goS (one (some l)).2 ≤ goS (some l)) (most : Int) (st : R) (wr : Bool) : goS (rdLs one most st wr).1.2 ≤ goS st := by
  have h1 := goS_num' st
  have h2 := goS_rdL one ho (wr || !cntOk (rNum st).1 most) (rNum st).1.toNat (rNum st).2
  simp only [rdLs]
  omega
theorem goS_ids (most : Int) (st : R) (wr : Bool) : goS (rdLs rNum most st wr).1.2 ≤ goS st := goS_rdLs _ (fun _ => goS_num' _) _ _ _
theorem goS_rows (most : Int) (st : R) (wr : Bool) : goS (rdLs rText most st wr).1.2 ≤ goS st := goS_rdLs _ (fun _ => goS_text' _) _ _ _
theorem goS_ents (most : Int) (st : R) (wr : Bool) : goS (rdLs rEnt most st wr).1.2 ≤ goS st := goS_rdLs _ (fun l => Nat.le_of_succ_le (goS_ent l)) _ _ _
theorem er_alloc {W : World} {b : Nat} {v : Value} {es : List Ent} (h : Er b W v es) (o : Obj) : Er b (W.alloc o) v es := by
  obtain ⟨us, h1, h2, h3⟩ := h
  refine ⟨us, h1, h2.alloc o, fun j e hj => ?_⟩
  obtain ⟨u, h4, h5⟩ := h3 j e hj
  exact ⟨u, h4, h5.alloc o⟩
theorem own_below4 {w w' : World} {base e s : Nat} {v : Value} {n : Nat} {xs : List Value} (h : w.ownsRow base e s v n xs) (hb : Below w.heap.size w w') : w'.ownsRow base e s v n xs := by
  refine ⟨h.1, ?_⟩
  rcases h.2 with h2 | ⟨g, cap, cur, e1, e2, e3, e4⟩
  · exact Or.inl h2
  · exact Or.inr ⟨g, cap, cur, e1, e2, by rw [hb.block g (lt_of_block e3)]; exact e3, e4⟩
theorem er_below {W W' : World} {b : Nat} {v : Value} {es : List Ent} (h : Er b W v es) (hb : Below W.heap.size W W') : Er b W' v es := by
  obtain ⟨us, h1, h2, h3⟩ := h
  refine ⟨us, h1, own_below4 h2 hb, fun j e hj => ?_⟩
  obtain ⟨u, h4, h5⟩ := h3 j e hj
  exact ⟨u, h4, own_below4 h5 hb⟩

end Go.Proofs.Ytgknpbgepgmmmaa.Cm

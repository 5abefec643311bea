/- Less at the queue. container/heap's up at the queue. container/heap's down at the queue. The queue's Len, Pop, Push. container/heap's Fix, Push, Pop, Remove at the queue. -/
import Derived.Test.YtjejpjpdfdcnlaaPart13
import Derived.Handy
import Derived.Test.YtjejpjpdfdcnlaaPart05
namespace Go.Proofs.Ytjejpjpdfdcnlaa.Qu
open Go.RowKit
open Vl (Fr)
variable {w w' : World} {qb : Nat} {bv pv wv mv ov vv : Value} {f : Nat → Nat} {n : Nat} {g : Nat → Kd} {t : Nat → Int} {m : Nat}

theorem less_q (h : Q w qb bv pv wv mv ov vv f n g t m) {i j : Nat} (hi : i < n) (hj : j < n) : Calls Try.prog 68 #[.pointer (some ⟨qb, 1, none⟩), .int .i64 (i : Int), .int .i64 (j : Int)] w fun e w' => e = .returned (.bool (ltK (kyOf g (f i)) (kyOf g (f j)))) ∧ Below w.heap.size w w' := by
  obtain ⟨gp, cp, gw, cw, rfl, rfl, _, _, _, hp, hw, _, _, _, _⟩ := h.rows (by omega)
  have hfi := h.lt i hi
  have hfj := h.lt j hj
  refine (less_core qb 1 gp gw i j n m cp cw (f i) (f j) (wrOf (g (f i)) (t (f i))) (wrOf (g (f j)) (t (f j))) w ⟨?_, ?_, hp i hi, hp j hj, ?_, ?_, ?_, ?_, ?_, ?_, ?_, ?_⟩ (by omega) (by omega) (by omega) (by omega)).mono ?_
  · rw [cell_of_row w qb 1 _ _ _ h.b]; rfl
  · rw [cell_of_row w qb 2 _ _ _ h.b]; rfl
  · exact hw (f i) 0 hfi (by omega)
  · exact hw (f i) 1 hfi (by omega)
  · exact hw (f i) 2 hfi (by omega)
  · exact hw (f i) 3 hfi (by omega)
  · exact hw (f j) 0 hfj (by omega)
  · exact hw (f j) 1 hfj (by omega)
  · exact hw (f j) 2 hfj (by omega)
  · exact hw (f j) 3 hfj (by omega)
  · rintro e w' ⟨rfl, hb⟩
    exact ⟨rfl, hb⟩
end Go.Proofs.Ytjejpjpdfdcnlaa.Qu
namespace Go.Proofs.Ytjejpjpdfdcnlaa.Qu
open Go.RowKit
open Vl (Fr)
variable {w w' : World} {qb : Nat} {bv pv wv mv ov vv : Value} {f : Nat → Nat} {n : Nat} {g : Nat → Kd} {t : Nat → Int} {m : Nat}

/-- The keys of those that wait, as they stand. -/
def kf (g : Nat → Kd) (f : Nat → Nat) : Nat → Ky := fun k => kyOf g (f k)
theorem kf_sw (g : Nat → Kd) (f : Nat → Nat) (i j : Nat) : kf g (Hp.sw f i j) = Hp.sw (kf g f) i j := by
  funext k
  unfold kf Hp.sw
  by_cases h1 : k = i
  · simp [h1]
  · by_cases h2 : k = j
    · subst h2; simp [h1]
    · simp [h1, h2]
/-- The same places wait. -/
def Sm (f f' : Nat → Nat) (n : Nat) : Prop := ∀ a, (∃ k, k < n ∧ f k = a) ↔ (∃ k, k < n ∧ f' k = a)
theorem Sm.refl (f : Nat → Nat) (n : Nat) : Sm f f n := fun _ => Iff.rfl
theorem Sm.trans {f g h : Nat → Nat} {n : Nat} (a : Sm f g n) (b : Sm g h n) : Sm f h n := fun x => (a x).trans (b x)
theorem Sm.sw (f : Nat → Nat) {n i j : Nat} (hi : i < n) (hj : j < n) : Sm f (Hp.sw f i j) n := by
  intro a
  constructor
  · rintro ⟨k, hk, rfl⟩
    by_cases e1 : k = i
    · exact ⟨j, hj, by rw [Hp.sw_r, e1]⟩
    · by_cases e2 : k = j
      · exact ⟨i, hi, by rw [Hp.sw_l, e2]⟩
      · exact ⟨k, hk, Hp.sw_o _ e1 e2⟩
  · rintro ⟨k, hk, rfl⟩
    by_cases e1 : k = i
    · exact ⟨j, hj, by rw [e1, Hp.sw_l]⟩
    · by_cases e2 : k = j
      · exact ⟨i, hi, by rw [e2, Hp.sw_r]⟩
      · exact ⟨k, hk, (Hp.sw_o _ e1 e2).symm⟩
theorem sw_comm (f : Nat → Nat) (i j : Nat) : Hp.sw f i j = Hp.sw f j i := by
  funext k
  unfold Hp.sw
  by_cases h1 : k = i
  · subst h1
    by_cases h2 : k = j
    · subst h2; rfl
    · simp [h2]
  · by_cases h2 : k = j
    · subst h2; simp [h1]
    · simp [h1, h2]
set_option maxHeartbeats 4000000 in
theorem up_q (h : Q w qb bv pv wv mv ov vv f n g t m) {n' j : Nat} (hn : n' ≤ n) (hj : j < n') (hu : Hp.Up ltK (kf g f) n' j) :
    Calls Try.prog 44 #[.iface 80 (.pointer (some ⟨qb, 1, none⟩)), .int .i64 (j : Int)] w fun e w' => e = .returned (.tuple #[]) ∧ ∃ f' t', Q w' qb bv pv wv mv ov vv f' n g t' m ∧ Hp.Heap ltK (kf g f') n' ∧ Sm f f' n ∧ (∀ k, n' ≤ k → f' k = f k) ∧ Fr (FQ pv wv) w w' := by
  have HQ := hide h
  have HU := hide hu
  clear h hu
  go_enter Try.func44, Try.ntmps44
  go_wp2_with fail
  go_loopw [1, 4] (fun jv _ wr => ∃ (j : Nat) (f' : Nat → Nat) (t' : Nat → Int), jv = .int .i64 (j : Int) ∧ j < n' ∧ Hid (Q wr qb bv pv wv mv ov vv f' n g t' m ∧ Hp.Up ltK (kf g f') n' j ∧ Sm f f' n ∧ (∀ k, n' ≤ k → f' k = f k) ∧ Fr (FQ pv wv) w wr)) (fun jv _ _ => (intOf jv).toNat)
  case atStart =>
    exact ⟨j, f, t, rfl, hj, HQ.out, HU.out, Sm.refl _ _, fun _ _ => rfl, Fr.refl _ _⟩
  case round =>
    obtain ⟨i, f1, t1, rfl, hi, HI⟩ := hrel
    clear HQ HU hj j
    have hI3 : (i : Int) ≤ 1000 := by
      have := HI.out.1.few
      have := HI.out.1.nm
      omega
    by_cases h0 : i = 0
    · subst h0
      go_wp2_with fail
      refine bodyPost_end (res0 rfl _ _) rfl ⟨rfl, f1, t1, HI.out.1, HI.out.2.1.done (fun h => absurd h (Nat.lt_irrefl _)), HI.out.2.2⟩
    · obtain ⟨p, Hp0⟩ : ∃ p, Hid (p = Hp.par i) := ⟨_, rfl⟩
      have hpp : p < i := by
        rw [Hp0.out]
        exact Hp.par_lt (by omega)
      have hpi : ((i : Int) - 1).tdiv 2 = (p : Int) := by
        rw [Hp0.out, Int.tdiv_eq_ediv_of_nonneg (by omega)]
        unfold Hp.par
        omega
      have hpw : wrap64 (p : Int) = (p : Int) := by unfold wrap64; omega
      have hne : ((p : Int) == (i : Int)) = false := by
        simp
        omega
      obtain ⟨lb, Hlb⟩ : ∃ lb, Hid (ltK (kyOf g (f1 i)) (kyOf g (f1 p)) = lb) := ⟨_, rfl⟩
      have HL : Hid (Calls Try.prog 68 #[.pointer (some ⟨qb, 1, none⟩), .int .i64 (i : Int), .int .i64 (p : Int)] wr fun e w' => e = .returned (.bool lb) ∧ Below wr.heap.size wr w') := by
        rw [← Hlb.out]
        exact less_q HI.out.1 (by omega) (by omega)
      go_wp2_with fail
      refine HL.out.mono ?_
      rintro e w2 ⟨rfl, hb2⟩
      have HI2 : Hid (Q w2 qb bv pv wv mv ov vv f1 n g t1 m ∧ Hp.Up ltK (kf g f1) n' i ∧ Sm f f1 n ∧ (∀ k, n' ≤ k → f1 k = f k) ∧ Fr (FQ pv wv) w w2) := ⟨HI.out.1.below hb2, HI.out.2.1, HI.out.2.2.1, HI.out.2.2.2.1, HI.out.2.2.2.2.trans (Fr.of_below (F := FQ pv wv) hb2) (fun _ _ h => h)⟩
      clear HL HI hb2
      cases lb with
      | false =>
        go_wp2_with fail
        refine bodyPost_end (res0 rfl _ _) rfl ⟨rfl, f1, t1, HI2.out.1, HI2.out.2.1.done (fun _ => ?_), HI2.out.2.2⟩
        have := Hlb.out
        rw [Hp0.out] at this
        exact this
      | true =>
        have HS := hide (swap_q HI2.out.1 (i := p) (j := i) (by omega) (by omega))
        go_wp2_with fail
        refine HS.out.mono ?_
        rintro e w3 ⟨rfl, hq3, hf3⟩
        have H3 := hide hq3
        have HF3 := hide hf3
        clear hq3 hf3 HS
        go_wp2_with fail
        refine ⟨⟨p, _, _, rfl, by omega, H3.out, ?_, HI2.out.2.2.1.trans (Sm.sw f1 (by omega) (by omega)), fun k hk => ?_, HI2.out.2.2.2.2.trans HF3.out (fun _ _ h => h)⟩, ?_⟩
        · have := HI2.out.2.1.step ltK_ord (by omega) hi (by have := Hlb.out; rw [Hp0.out] at this; exact this)
          rw [← Hp0.out, ← kf_sw, sw_comm] at this
          exact this
        · rw [Hp.sw_o f1 (by omega) (by omega)]
          exact HI2.out.2.2.2.1 k hk
        · show (intOf (.int .i64 (p : Int))).toNat < (intOf (.int .i64 (i : Int))).toNat
          simp [intOf]
          omega
end Go.Proofs.Ytjejpjpdfdcnlaa.Qu
namespace Go.Proofs.Ytjejpjpdfdcnlaa.Qu
open Go.RowKit
open Vl (Fr)
variable {w w' : World} {qb : Nat} {bv pv wv mv ov vv : Value} {f : Nat → Nat} {n : Nat} {g : Nat → Kd} {t : Nat → Int} {m : Nat}

theorem par_two {c i : Nat} (h : 0 < c) (e : Hp.par c = i) : c = 2 * i + 1 ∨ c = 2 * i + 2 := by
  unfold Hp.par at e
  omega
/-- What down has made: where it stands, and what is a heap there. -/
structure Dw (w wr : World) (qb : Nat) (bv pv wv mv ov vv : Value) (f f1 : Nat → Nat) (n n' i0 i : Nat) (g : Nat → Kd) (t1 : Nat → Int) (m : Nat) : Prop where
  q : Q wr qb bv pv wv mv ov vv f1 n g t1 m
  le : i0 ≤ i
  fix : Hp.Fix ltK (kf g f1) n' i
  eq : i = i0 → f1 = f
  dn : i0 < i → Hp.Down ltK (kf g f1) n' i
  sm : Sm f f1 n
  hi : ∀ k, n' ≤ k → f1 k = f k
  fr : Fr (FQ pv wv) w wr
theorem Dw.below {w wr wr' : World} {f1 : Nat → Nat} {n' i0 i : Nat} {t1 : Nat → Int} (h : Dw w wr qb bv pv wv mv ov vv f f1 n n' i0 i g t1 m) (hb : Below wr.heap.size wr wr') : Dw w wr' qb bv pv wv mv ov vv f f1 n n' i0 i g t1 m :=
  ⟨h.q.below hb, h.le, h.fix, h.eq, h.dn, h.sm, h.hi, h.fr.trans (Fr.of_below (F := FQ pv wv) hb) (fun _ _ h => h)⟩
/-- What down gives. -/
def Dr (w w' : World) (qb : Nat) (bv pv wv mv ov vv : Value) (f : Nat → Nat) (n n' i0 : Nat) (g : Nat → Kd) (m : Nat) (r : Bool) : Prop :=
  ∃ f' t', Q w' qb bv pv wv mv ov vv f' n g t' m ∧ Sm f f' n ∧ (∀ k, n' ≤ k → f' k = f k) ∧ Fr (FQ pv wv) w w' ∧ (r = true → Hp.Heap ltK (kf g f') n') ∧ (r = false → f' = f ∧ Hp.Up ltK (kf g f) n' i0)
theorem Dw.done {w wr : World} {f1 : Nat → Nat} {n' i0 i : Nat} {t1 : Nat → Int} (h : Dw w wr qb bv pv wv mv ov vv f f1 n n' i0 i g t1 m) (hc : ∀ c, 0 < c → c < n' → Hp.par c = i → Hp.le ltK (kf g f1 i) (kf g f1 c)) : Dr w wr qb bv pv wv mv ov vv f n n' i0 g m (decide (i0 < i)) := by
  refine ⟨f1, t1, h.q, h.sm, h.hi, h.fr, fun hr => ?_, fun hr => ?_⟩
  · have : i0 < i := by simp at hr; omega
    exact (h.dn this).done hc
  · have e : i = i0 := by
      have := h.le
      simp at hr
      omega
    have ef := h.eq e
    refine ⟨ef, ?_⟩
    subst e
    rw [← ef]
    exact h.fix.up hc

set_option maxHeartbeats 4000000 in
theorem down_q (h : Q w qb bv pv wv mv ov vv f n g t m) {n' i0 : Nat} (hn : n' ≤ n) (hi0 : i0 ≤ n') (hu : Hp.Fix ltK (kf g f) n' i0) :
    Calls Try.prog 43 #[.iface 80 (.pointer (some ⟨qb, 1, none⟩)), .int .i64 (i0 : Int), .int .i64 (n' : Int)] w fun e w' => ∃ r, e = .returned (.bool r) ∧ Dr w w' qb bv pv wv mv ov vv f n n' i0 g m r := by
  have HQ : Hid (Dw w w qb bv pv wv mv ov vv f f n n' i0 i0 g t m) := ⟨h, Nat.le_refl _, hu, fun _ => rfl, fun e => absurd e (Nat.lt_irrefl _), Sm.refl _ _, fun _ _ => rfl, Fr.refl _ _⟩
  have hN : (n' : Int) ≤ 1000 := by
    have := h.nm
    have := h.few
    omega
  clear h hu
  go_enter Try.func43, Try.ntmps43
  go_wp2_with fail
  go_loopw [7, 8, 9, 10] (fun iv _ _ _ wr => ∃ (i : Nat) (f1 : Nat → Nat) (t1 : Nat → Int), iv = .int .i64 (i : Int) ∧ i ≤ n' ∧ Hid (Dw w wr qb bv pv wv mv ov vv f f1 n n' i0 i g t1 m)) (fun iv _ _ _ _ => n' - (intOf iv).toNat)
  case atStart => exact ⟨i0, f, t, rfl, hi0, HQ⟩
  case round =>
    obtain ⟨i, f1, t1, rfl, hi, HI⟩ := hrel
    clear HQ
    have hI3 : (i : Int) ≤ 1000 := by omega
    by_cases hj : 2 * i + 1 < n'
    · obtain ⟨j1, Hj1⟩ : ∃ j1, Hid (j1 = 2 * i + 1) := ⟨_, rfl⟩
      have e1 : 2 * (i : Int) + 1 = (j1 : Int) := by have := Hj1.out; omega
      obtain ⟨j2, Hj2⟩ : ∃ j2, Hid (j2 = 2 * i + 2) := ⟨_, rfl⟩
      have e2 : (j1 : Int) + 1 = (j2 : Int) := by have := Hj1.out; have := Hj2.out; omega
      have hj1 : (j1 : Int) < (n' : Int) := by have := Hj1.out; omega
      have g1 : decide (n' ≤ j1) = false := by simp; omega
      have Hj := hide hj
      clear hj
      go_upto_region 6 with fail
      go_cut [33] from 25 to 32 (fun bv' wc => ∃ lb : Bool, bv' = .bool lb ∧ Hid ((lb = true → j2 < n' ∧ ltK (kyOf g (f1 j2)) (kyOf g (f1 j1)) = true) ∧ (lb = false → j2 < n' → ltK (kyOf g (f1 j2)) (kyOf g (f1 j1)) = false) ∧ Dw w wc qb bv pv wv mv ov vv f f1 n n' i0 i g t1 m))
      case first =>
        by_cases hj2 : (j2 : Int) < (n' : Int)
        · obtain ⟨lb, Hlb⟩ : ∃ lb, Hid (ltK (kyOf g (f1 j2)) (kyOf g (f1 j1)) = lb) := ⟨_, rfl⟩
          have HL : Hid (Calls Try.prog 68 #[.pointer (some ⟨qb, 1, none⟩), .int .i64 (j2 : Int), .int .i64 (j1 : Int)] wr fun e w' => e = .returned (.bool lb) ∧ Below wr.heap.size wr w') := by
            rw [← Hlb.out]
            exact less_q HI.out.q (by omega) (by omega)
          go_wp2_with fail
          refine HL.out.mono ?_
          rintro e w2 ⟨rfl, hb2⟩
          have HI2 := hide (HI.out.below hb2)
          clear HL HI hb2
          go_wp2_with fail
          go_meet
          exact ⟨lb, rfl, fun e => ⟨by omega, by rw [Hlb.out]; exact e⟩, fun e _ => by rw [Hlb.out]; exact e, HI2.out⟩
        · have g3 : decide (j2 < n') = false := by simp; omega
          go_wp2_with fail
          go_meet
          exact ⟨false, rfl, (fun e => by cases e), (fun _ h => absurd h (by omega)), HI.out⟩
      case rest =>
      obtain ⟨lb, rfl, HB⟩ := hcut
      clear HI
      go_upto_if 33 with fail
      go_cut [9] from 33 to 34 (fun jv wd => ∃ j : Nat, jv = .int .i64 (j : Int) ∧ Hid (j < n' ∧ i < j ∧ Hp.par j = i ∧ (∀ c, 0 < c → c < n' → Hp.par c = i → Hp.le ltK (kf g f1 j) (kf g f1 c)) ∧ Dw w wd qb bv pv wv mv ov vv f f1 n n' i0 i g t1 m))
      case first =>
        cases lb with
        | false =>
          go_wp2_with fail
          go_meet
          refine ⟨j1, rfl, by omega, by have := Hj1.out; omega, by rw [Hj1.out]; unfold Hp.par; omega, fun c c0 cn ce => ?_, HB.out.2.2⟩
          rcases par_two c0 ce with e | e
          · rw [e, ← Hj1.out]; exact ltK_ord.refl _
          · have h2 := Hj2.out
            rw [e, ← h2]; exact HB.out.2.1 (by simp) (by omega)
        | true =>
          go_wp2_with fail
          go_meet
          have hb := HB.out.1 (by simp)
          refine ⟨j2, rfl, hb.1, by have := Hj2.out; omega, by rw [Hj2.out]; unfold Hp.par; omega, fun c c0 cn ce => ?_, HB.out.2.2⟩
          rcases par_two c0 ce with e | e
          · rw [e, ← Hj1.out]; exact ltK_ord.of_lt hb.2
          · rw [e, ← Hj2.out]; exact ltK_ord.refl _
      case rest =>
        obtain ⟨j, rfl, HJ⟩ := hcut
        clear HB e1 e2 hj1 g1 Hj Hj1 Hj2
        obtain ⟨lb, Hlb⟩ : ∃ lb, Hid (ltK (kyOf g (f1 j)) (kyOf g (f1 i)) = lb) := ⟨_, rfl⟩
        have hjl : j < n ∧ i < n := by have := HJ.out.1; have := HJ.out.2.1; omega
        have HL : Hid (Calls Try.prog 68 #[.pointer (some ⟨qb, 1, none⟩), .int .i64 (j : Int), .int .i64 (i : Int)] wc fun e w' => e = .returned (.bool lb) ∧ Below wc.heap.size wc w') := by
          rw [← Hlb.out]
          exact less_q HJ.out.2.2.2.2.q hjl.1 hjl.2
        go_wp2_with fail
        refine HL.out.mono ?_
        rintro e w2 ⟨rfl, hb2⟩
        have HI2 := hide (HJ.out.2.2.2.2.below hb2)
        clear HL hb2
        cases lb with
        | false =>
          have HD := hide (HI2.out.done (fun c c0 cn ce => ltK_ord.trans (b := kf g f1 j) Hlb.out (HJ.out.2.2.2.1 c c0 cn ce)))
          go_wp2_with fail
          go_ret
          exact ⟨_, rfl, HD.out⟩
        | true =>
          have HS := hide (swap_q HI2.out.q (i := i) (j := j) hjl.2 hjl.1)
          go_wp2_with fail
          refine HS.out.mono ?_
          rintro e w3 ⟨rfl, hq3, hf3⟩
          have H3 := hide hq3
          have HF3 := hide hf3
          clear hq3 hf3 HS
          have HN : Hid (Hp.Down ltK (kf g (Hp.sw f1 i j)) n' j) := by
            have := HI2.out.fix.step ltK_ord (by have := HJ.out.2.1; omega) HJ.out.1 HJ.out.2.2.1 Hlb.out HJ.out.2.2.2.1
            rw [← kf_sw] at this
            exact this
          go_wp2_with fail
          have h1 := HJ.out.1
          have h2 := HJ.out.2.1
          have h3 := HI2.out.le
          refine ⟨⟨j, _, _, rfl, by omega, H3.out, by omega, HN.out.fix, fun e => absurd e (by omega), fun _ => HN.out, HI2.out.sm.trans (Sm.sw f1 hjl.2 hjl.1), fun k hk => ?_, HI2.out.fr.trans HF3.out (fun _ _ h => h)⟩, ?_⟩
          · rw [Hp.sw_o f1 (by omega) (by omega)]
            exact HI2.out.hi k hk
          · show n' - (intOf (.int .i64 (j : Int))).toNat < n' - (intOf (.int .i64 (i : Int))).toNat
            simp [intOf]
            omega
    · have hjI : (n' : Int) ≤ 2 * (i : Int) + 1 := by omega
      have HD := hide (HI.out.done (fun c c0 cn ce => by
        have := par_two c0 ce
        omega))
      go_wp2_with fail
      go_ret
      exact ⟨_, rfl, HD.out⟩
end Go.Proofs.Ytjejpjpdfdcnlaa.Qu
namespace Go.Proofs.Ytjejpjpdfdcnlaa.Qu
open Go.RowKit
open Vl (Fr)
variable {w w' : World} {qb : Nat} {bv pv wv mv ov vv : Value} {f : Nat → Nat} {n : Nat} {g : Nat → Kd} {t : Nat → Int} {m : Nat}

/-- What a call on the queue may turn. -/
def FW (pv wv : Value) (qb : Nat) : Nat → Prop := fun k => FQ pv wv k ∨ k = qb
/-- A row that has gone on stands where it stood, or in new memory. -/
def Gw (w : World) (v v' : Value) : Prop := ∀ k, v'.ownBlock = some k → v.ownBlock = some k ∨ w.heap.size ≤ k
theorem Gw.refl (w : World) (v : Value) : Gw w v v := fun _ h => .inl h

theorem Q.pvs (h : Q w qb bv pv wv mv ov vv f n g t m) : ∃ ao cap, pv = .slice ao n cap := (Sy.own_len h.p).2
theorem Q.wvs (h : Q w qb bv pv wv mv ov vv f n g t m) : ∃ ao cap, wv = .slice ao m cap := (Sy.own_len h.x).2
theorem Q.c1 (h : Q w qb bv pv wv mv ov vv f n g t m) : w.cell? ⟨qb, 1, none⟩ = some pv := by rw [cell_of_row w qb 1 _ _ _ h.b]; rfl
theorem Q.c2 (h : Q w qb bv pv wv mv ov vv f n g t m) : w.cell? ⟨qb, 2, none⟩ = some wv := by rw [cell_of_row w qb 2 _ _ _ h.b]; rfl
theorem Q.fz (h : Q w qb bv pv wv mv ov vv f n g t m) (i : Nat) : w.frozen? ⟨qb, i, none⟩ = false := frozen_of_row w qb i _ _ h.b
theorem len_q (h : Q w qb bv pv wv mv ov vv f n g t m) : Calls Try.prog 15 #[.pointer (some ⟨qb, 1, none⟩)] w fun e w' => e = .returned (.int .i64 (n : Int)) ∧ w' = w := by
  have c1 := h.c1
  obtain ⟨ao, cap, rfl⟩ := h.pvs
  have hn : (n : Int) ≤ 1000 := by have := h.nm; have := h.few; omega
  clear h
  go_enter Try.func15, Try.ntmps15
  go_wp2
  go_ret
  exact ⟨rfl, rfl⟩

theorem pop_at {f : Nat → Nat} {n : Nat} {t : Nat → Int} {m : Nat} (inj : ∀ i j, i < n + 1 → j < n + 1 → f i = f j → i = j) (a1 : ∀ k, k < n + 1 → t (f k) = (k : Int)) (a2 : ∀ a, a < m → (∀ k, k < n + 1 → f k ≠ a) → t a = -1) :
    (∀ k, k < n → (upd t (f n) (-1)) (f k) = (k : Int)) ∧ (∀ a, a < m → (∀ k, k < n → f k ≠ a) → (upd t (f n) (-1)) a = -1) := by
  refine ⟨fun k hk => ?_, fun a ha h => ?_⟩
  · rw [upd_o _ _ (fun e => by have := inj _ _ (by omega) (by omega) e; omega)]
    exact a1 k (by omega)
  · by_cases e : a = f n
    · subst e; exact upd_s _ _ _
    · rw [upd_o _ _ e]
      refine a2 a ha fun k hk e2 => ?_
      by_cases e3 : k = n
      · subst e3; exact e e2.symm
      · exact h k (by omega) e2

set_option maxHeartbeats 2000000 in
theorem pop_q (h : Q w qb bv pv wv mv ov vv f (n + 1) g t m) : Calls Try.prog 69 #[.pointer (some ⟨qb, 1, none⟩)] w fun e w' => e = .returned (.iface 3 (.int .i64 (f n : Int))) ∧ ∃ pv', Q w' qb bv pv' wv mv ov vv f n g (upd t (f n) (-1)) m ∧ Fr (FW pv wv qb) w w' ∧ pv'.ownBlock = pv.ownBlock := by
  obtain ⟨gp, cp, gw, cw, rfl, rfl, n1, n2, n3, hp, hw, hpf, hwf, hn1, hm1⟩ := h.rows (by omega)
  have c1 := h.c1
  have c2 := h.c2
  have f1 := h.fz 1
  have pn := hp n (by omega)
  have hln := h.lt n (by omega)
  have hlI : ((f n : Nat) : Int) < (m : Int) := by omega
  have hnI : (n : Int) ≤ 1000 := by omega
  have hx3 := hw (f n) 3 hln (by omega)
  have hxf := hwf (f n * 4 + 3)
  have hcp : n + 1 ≤ cp := by
    rcases Vl.own_shape h.p with ⟨e, _⟩ | ⟨_, _, e, h1, _⟩
    · cases e
    · simp only [Value.slice.injEq] at e; omega
  have hcpI : ((n : Int) + 1) ≤ (cp : Int) := by omega
  obtain ⟨x3, hx3'⟩ : ∃ x3, w.cell? ⟨gw, f n * 4 + 3, none⟩ = some x3 := ⟨_, hx3⟩
  have HQ := hide h
  clear h hp hw hpf hwf hx3
  go_enter Try.func69, Try.ntmps69
  go_wp2
  go_ret
  have hf : Fr (FW (.slice (some ⟨gp, 0, none⟩) (n + 1) cp) (.slice (some ⟨gw, 0, none⟩) m cw) qb) w ((w.setCell ⟨qb, 1, none⟩ (.slice (some ⟨gp, 0, none⟩) n cp)).setCell ⟨gw, f n * 4 + 3, none⟩ (.int .i64 (-1))) :=
    ((Fr.refl _ w).setCell (p := ⟨qb, 1, none⟩) (fun _ => .inr rfl) _).setCell (p := ⟨gw, f n * 4 + 3, none⟩) (fun _ => .inl (.inr rfl)) _
  have hfq : Fr (fun k => k = qb) w (w.setCell ⟨qb, 1, none⟩ (.slice (some ⟨gp, 0, none⟩) n cp)) := Vl.Fr.one w qb 1 _
  have hfw : Fr (fun k => k = gw) (w.setCell ⟨qb, 1, none⟩ (.slice (some ⟨gp, 0, none⟩) n cp)) ((w.setCell ⟨qb, 1, none⟩ (.slice (some ⟨gp, 0, none⟩) n cp)).setCell ⟨gw, f n * 4 + 3, none⟩ (.int .i64 (-1))) := Vl.Fr.one _ gw _ _
  have hat := pop_at (fun i j hi hj => HQ.out.inj hi hj) HQ.out.at1 HQ.out.at2
  have hx := own_set (j := f n * 4 + 3) (own_of_cell HQ.out.x hfq (fun k hk e => by subst hk; simp [Value.ownBlock] at e; exact n3 e)) (.int .i64 (-1))
  rw [rowW_set3] at hx
  refine ⟨rfl, .slice (some ⟨gp, 0, none⟩) n cp, ⟨?_, ?_, hx, HQ.out.few, fun k hk => HQ.out.lt k (by omega), hat.1, hat.2⟩, hf, rfl⟩
  · rw [hfw.block qb (by simp [World.setCell]; exact (Array.getElem?_eq_some_iff.1 HQ.out.b).1) (Ne.symm n3), Vl.heap_set HQ.out.b]
    rfl
  · refine own_of_cell (own_of_cell (own_cut HQ.out.p (Nat.le_succ n) ?_) hfq (fun k hk e => by subst hk; simp [Value.ownBlock] at e; exact n2 e)) hfw (fun k hk e => by subst hk; simp [Value.ownBlock] at e; exact n1 e)
    rw [rowP_succ, Nat.mul_one, List.take_append_of_le_length (by rw [rowP_len]; omega), List.take_of_length_le (by rw [rowP_len]; omega)]

theorem push_at {f : Nat → Nat} {n a : Nat} {t : Nat → Int} {m : Nat} (ha : ∀ k, k < n → f k ≠ a) (a1 : ∀ k, k < n → t (f k) = (k : Int)) (a2 : ∀ b, b < m → (∀ k, k < n → f k ≠ b) → t b = -1) :
    (∀ k, k < n + 1 → (upd t a n) (upd f n a k) = (k : Int)) ∧ (∀ b, b < m → (∀ k, k < n + 1 → upd f n a k ≠ b) → (upd t a n) b = -1) := by
  refine ⟨fun k hk => ?_, fun b hb h => ?_⟩
  · by_cases e : k = n
    · subst e; rw [upd_s, upd_s]
    · rw [upd_o f _ e, upd_o _ _ (ha k (by omega))]
      exact a1 k (by omega)
  · have e1 : b ≠ a := fun e => h n (by omega) (by rw [upd_s]; exact e.symm)
    rw [upd_o _ _ e1]
    refine a2 b hb fun k hk e => h k (by omega) ?_
    rw [upd_o f _ (by omega)]
    exact e
theorem Try.info3 : (Try.prog.info? 3).map (fun i => (i.zero, i.size, i.bytes)) = some (some (.int .i64 0), 1, 8) := by kernel_rfl
theorem Try.info76 : (Try.prog.info? 76).map (fun i => (i.zero, i.size, i.bytes)) = some (some (.agg #[.int .i64 0, .int .i64 0, .int .i64 0, .int .i64 0]), 4, 32) := by kernel_rfl
/-- One more element at the end of a row, and where it then stands. -/
theorem push_row (t e size bytes : Nat) (z : Value) (ht : Try.prog.underlying t = some (.slice e)) (hi : (Try.prog.info? e).map (fun i => (i.zero, i.size, i.bytes)) = some (some z, size, bytes)) (hzs : z.cells.size = size) (hs0 : 0 < size) (hby : bytes ≤ 1000)
    {W : World} {n : Nat} {v : Value} {xs : List Value} (h : W.ownsRow 0 e size v n xs) (cs : List Value) (hc : cs.length = size) (h1 : ∀ u ∈ cs, u.oneCell' = true) (hl : n ≤ 1000000) :
    ∃ g cap w3, (∀ ty, (Builtin.append_ #[t, t] ty #[v, .slice (some ⟨W.heap.size, 0, none⟩) 1 1]).run Try.prog (W.alloc (.cells cs.toArray e)) = .ok (.slice (some ⟨g, 0, none⟩) (n + 1) cap) w3) ∧
      Hid (w3.ownsRow 0 e size (.slice (some ⟨g, 0, none⟩) (n + 1) cap) (n + 1) (xs ++ cs)) ∧ Hid (Fr (fun k => v.ownBlock = some k) W w3) ∧ Hid (Gw W v (.slice (some ⟨g, 0, none⟩) (n + 1) cap)) := by
  obtain ⟨i, hi, hz, hsize, hbyt⟩ := info_parts hi
  have ha : (W.alloc (.cells cs.toArray e)).ownsRow 0 e size v n xs := h.alloc _
  have H := fun ty => run_append_own_at (P := Try.prog) (W.alloc (.cells cs.toArray e)) 0 t ty e i z size bytes ht hi hz hsize hbyt hzs hs0 v n xs ha ⟨W.heap.size, 0, none⟩ 1 1 cs (by omega) (fun j u hj => by
    rw [Addr.add_lit, Nat.zero_add, cell_of_row _ _ j _ _ _ (heap_alloc_new _ _)]
    simpa using hj) h1 (by simp only [maxLen]; omega) (by
      have : (n + 1) * bytes ≤ 1000001 * 1000 := Nat.mul_le_mul (by omega) hby
      omega) (by simp)
  obtain ⟨v', w', hr, g1, g2, _, g4⟩ := H 0
  have hF : Fr (fun k => v.ownBlock = some k) W w' := ((Fr.refl (fun k => v.ownBlock = some k) W).alloc (.cells cs.toArray e)).trans (Vl.Fr.of_grown (F := fun k => v.ownBlock = some k) g2 (fun k hk => hk)) (fun _ _ e => e)
  rcases Lx.own_shape g1 with ⟨_, h0⟩ | ⟨g', cap, rfl, _⟩
  · omega
  · refine ⟨g', cap, w', fun ty => hr, g1, hF, fun k hk => ?_⟩
    rcases g4 with g4 | g4
    · exact .inl (by rw [← g4]; exact hk)
    · rw [hk] at g4
      simp at g4
      exact .inr (by omega)

theorem ta3 (x : Int) (w : World) : Sem.run Try.prog (Instr.typeAssert (.iface 3 (.int .i64 x)) 20 3 false) w = .ok (.int .i64 x) w := by kernel_rfl
set_option maxHeartbeats 2000000 in
theorem push_q (h : Q w qb bv pv wv mv ov vv f n g t m) {a : Nat} (ham : a < m) (ha : ∀ k, k < n → f k ≠ a) : Calls Try.prog 70 #[.pointer (some ⟨qb, 1, none⟩), .iface 3 (.int .i64 (a : Int))] w fun e w' => e = .returned (.tuple #[]) ∧ ∃ pv', Q w' qb bv pv' wv mv ov vv (upd f n a) (n + 1) g (upd t a n) m ∧ Fr (FW pv wv qb) w w' ∧ Gw w pv pv' := by
  obtain ⟨gw, cw, rfl, _, _, hw, hwf⟩ := own_open h.x (by omega)
  have c1 := h.c1
  have c2 := h.c2
  have f1 := h.fz 1
  have hlI : (a : Int) < (m : Int) := by omega
  have hmI : (m : Int) ≤ 1000 := by have := h.few; omega
  have hnm := h.nm
  have hnI : (n : Int) ≤ 1000 := by omega
  have hx3 := (hw (a * 4 + 3) (by omega)).trans (rowW_get g t m a 3 ham (by omega))
  have hxf := hwf (a * 4 + 3)
  obtain ⟨x3, hx3'⟩ : ∃ x3, w.cell? ⟨gw, a * 4 + 3, none⟩ = some x3 := ⟨_, hx3⟩
  obtain ⟨ao, cap, hpv⟩ := h.pvs
  have n3 : gw ≠ qb := fun e => by subst e; exact h.wq rfl
  have HW : Hid (∀ u, (w.setCell ⟨gw, a * 4 + 3, none⟩ (.int .i64 (n : Int))).drew = u → u.cell? ⟨qb, 1, none⟩ = some pv ∧ u.frozen? ⟨qb, 1, none⟩ = false ∧ Hid (u.ownsRow 0 3 1 pv n (rowP f n) ∧ u.ownsRow 0 76 4 (.slice (some ⟨gw, 0, none⟩) m cw) m (rowW g (upd t a n) m) ∧ Fr (fun k => k = gw) w u ∧ u.heap.size = w.heap.size)) := by
    rintro u rfl
    have hf : Fr (fun k => k = gw) w (w.setCell ⟨gw, a * 4 + 3, none⟩ (.int .i64 (n : Int))).drew := (Vl.Fr.one w gw _ _).drew
    have hx := own_set (j := a * 4 + 3) h.x (.int .i64 (n : Int))
    rw [rowW_set3] at hx
    exact ⟨hf.cell c1 (Ne.symm n3), (hf.frozen c1 (Ne.symm n3)).trans f1, own_of_cell h.p hf (fun k hk e => by subst hk; exact h.pw e rfl), hx, hf, by simp [World.setCell, World.drew]⟩
  have HQ := hide h
  subst hpv
  clear h hw hwf hx3
  have hta := ta3 (a : Int)
  go_enter Try.func70, Try.ntmps70
  go_upto_region 1 with fail
  refine wp_region_noPanic ?_
  go_region
  refine NoPanic.normal ?_
  generalize hu : (w.setCell ⟨gw, a * 4 + 3, none⟩ (.int .i64 (n : Int))).drew = w1
  obtain ⟨d1, d2, H1⟩ := HW.out w1 hu
  clear HW hu c1 c2 f1 hx3' hxf
  obtain ⟨gp, cp, w3, hr, k1, k2, k3⟩ := push_row 31 3 1 8 _ Try.underlying31 Try.info3 rfl (by decide) (by decide) H1.out.1 [.int .i64 (a : Int)] rfl (by simp [Value.oneCell']) (by omega)
  have hnq : ¬ (Value.slice ao n cap).ownBlock = some qb := HQ.out.pq
  have e1 := k2.out.cell d1 hnq
  have e2 := (k2.out.frozen d1 hnq).trans d2
  go_wp2_with (at_builtin; refine Lx.wpList_append_run _ rfl (.tmp 23) (.tmp 25) 31 31 rfl _ _ rfl rfl (hr _) ?_)
  refine bodyPost_end (res0 rfl _ _) rfl ⟨rfl, .slice (some ⟨gp, 0, none⟩) (n + 1) cp, ?_⟩
  obtain ⟨o1, o2, o3, o4⟩ := H1.out
  have hat := push_at ha HQ.out.at1 HQ.out.at2
  have hb3 : w3.heap[qb]? = some (.cells #[bv, .slice ao n cap, .slice (some ⟨gw, 0, none⟩) m cw, mv, ov, vv] 54 (0, 0)) := by
    rw [k2.out.block qb (by rw [o4]; exact (Array.getElem?_eq_some_iff.1 HQ.out.b).1) hnq, o3.block qb (Array.getElem?_eq_some_iff.1 HQ.out.b).1 (Ne.symm n3)]
    exact HQ.out.b
  have hq : gp ≠ qb := fun e => by
    subst e
    obtain ⟨cur, hc⟩ := own_blk k1.out (k := gp) rfl
    rw [hc] at hb3
    simp at hb3
  have h1 : Fr (fun k => k = qb) w3 (w3.setCell ⟨qb, 1, none⟩ (.slice (some ⟨gp, 0, none⟩) (n + 1) cp)) := Vl.Fr.one _ _ _ _
  refine ⟨⟨by rw [Vl.heap_set hb3]; rfl, ?_, ?_, HQ.out.few, fun k hk => ?_, hat.1, hat.2⟩, ?_, fun k hk => ?_⟩
  · have h2 := own_of_cell k1.out h1 (fun k hk e => by subst hk; simp [Value.ownBlock] at e; exact hq e)
    have e : rowP f n ++ [.int .i64 (a : Int)] = rowP (upd f n a) (n + 1) := by
      rw [rowP_succ, upd_s]
      congr 1
      exact rowP_congr (fun k hk => (upd_o f _ (by omega)).symm)
    rw [e] at h2
    exact h2
  · exact own_of_cell (own_of_cell o2 k2.out (fun k hk e => HQ.out.pw hk e)) h1 (fun k hk e => by subst hk; simp [Value.ownBlock] at e; exact n3 e)
  · by_cases e : k = n
    · subst e; rw [upd_s]; exact ham
    · rw [upd_o f _ e]; exact HQ.out.lt k (by omega)
  · refine ((o3.mono (G := FW (.slice ao n cap) (.slice (some ⟨gw, 0, none⟩) m cw) qb) (fun x _ e => by subst e; exact .inl (.inr rfl))).trans k2.out (fun x _ e => .inl (.inl e))).trans h1 (fun x _ e => .inr e)
  · rcases k3.out k hk with h | h
    · exact .inl h
    · exact .inr (by omega)
end Go.Proofs.Ytjejpjpdfdcnlaa.Qu
namespace Go.Proofs.Ytjejpjpdfdcnlaa.Qu
open Go.RowKit
open Vl (Fr)
variable {w w' : World} {qb : Nat} {bv pv wv mv ov vv : Value} {f : Nat → Nat} {n : Nat} {g : Nat → Kd} {t : Nat → Int} {m : Nat}

/-- Who waits. -/
def In (f : Nat → Nat) (n a : Nat) : Prop := ∃ k, k < n ∧ f k = a
theorem in_last {f : Nat → Nat} {n : Nat} (inj : ∀ i j, i < n + 1 → j < n + 1 → f i = f j → i = j) (a : Nat) : In f n a ↔ In f (n + 1) a ∧ a ≠ f n := by
  constructor
  · rintro ⟨k, hk, rfl⟩
    exact ⟨⟨k, by omega, rfl⟩, fun e => by have := inj k n (by omega) (by omega) e; omega⟩
  · rintro ⟨⟨k, hk, rfl⟩, h⟩
    refine ⟨k, ?_, rfl⟩
    by_cases e : k = n
    · subst e; exact absurd rfl h
    · omega
theorem heap_fix {F G : Nat → Ky} {n i : Nat} {N : Nat} (h : Hp.Heap ltK F N) (hn : n ≤ N) (hg : ∀ k, k < n → k ≠ i → G k = F k) : Hp.Fix ltK G n i :=
  ⟨fun c c0 cn ce pe => by
    have := Hp.par_lt c0
    rw [hg c cn ce, hg (Hp.par c) (by omega) pe]; exact h c c0 (by omega), fun c c0 cn ce i0 => by
    have h1 := Hp.par_lt c0
    have h2 := Hp.par_lt i0
    rw [hg c cn (by omega), hg (Hp.par i) (by omega) (by omega)]
    have h3 := h c c0 (by omega)
    rw [ce] at h3
    exact ltK_ord.trans (h i i0 (by omega)) h3⟩
theorem heap_le {F : Nat → Ky} {n N : Nat} (h : Hp.Heap ltK F N) (hn : n ≤ N) : Hp.Heap ltK F n := fun c c0 cn => h c c0 (by omega)

set_option maxHeartbeats 2000000 in
theorem fix_q (h : Q w qb bv pv wv mv ov vv f n g t m) {i : Nat} (hi : i < n) (hu : Hp.Fix ltK (kf g f) n i) :
    Calls Try.prog 50 #[.iface 80 (.pointer (some ⟨qb, 1, none⟩)), .int .i64 (i : Int)] w fun e w' => e = .returned (.tuple #[]) ∧ ∃ f' t', Q w' qb bv pv wv mv ov vv f' n g t' m ∧ Hp.Heap ltK (kf g f') n ∧ Sm f f' n ∧ Fr (FQ pv wv) w w' := by
  have HL := hide (len_q h)
  have HD := hide (down_q h (Nat.le_refl n) (Nat.le_of_lt hi) hu)
  have HU : Hid (∀ W t', Q W qb bv pv wv mv ov vv f n g t' m → Hp.Up ltK (kf g f) n i → Calls Try.prog 44 #[.iface 80 (.pointer (some ⟨qb, 1, none⟩)), .int .i64 (i : Int)] W fun e w' => e = .returned (.tuple #[]) ∧ ∃ f' t', Q w' qb bv pv wv mv ov vv f' n g t' m ∧ Hp.Heap ltK (kf g f') n ∧ Sm f f' n ∧ (∀ k, n ≤ k → f' k = f k) ∧ Fr (FQ pv wv) W w') := fun W t' hq hup => up_q hq (Nat.le_refl n) hi hup
  clear h hu
  go_enter Try.func50, Try.ntmps50
  go_wp2_with fail
  refine HL.out.mono ?_
  rintro e w1 ⟨rfl, hw⟩
  have hw' := hw.symm
  subst hw'
  clear hw HL
  go_wp2_with fail
  refine HD.out.mono ?_
  rintro e w2 ⟨r, rfl, hd⟩
  have H2 := hide hd
  clear hd HD
  cases r with
  | true =>
    go_wp2_with fail
    obtain ⟨f', t', q1, q2, _, q4, q5, _⟩ := H2.out
    exact bodyPost_end (res0 rfl _ _) rfl ⟨rfl, f', t', q1, q5 rfl, q2, q4⟩
  | false =>
    obtain ⟨f', t', hq⟩ := H2.out
    have e := (hq.2.2.2.2.2 rfl).1
    subst e
    have H3 := hide hq
    clear hq
    go_wp2_with fail
    refine (HU.out _ t' H3.out.1 (H3.out.2.2.2.2.2 (by simp)).2).mono ?_
    rintro e w3 ⟨rfl, f3, t3, q1, q2, q3, q4, q5⟩
    have H4 := hide (And.intro q1 (And.intro q2 (And.intro q3 q5)))
    clear q1 q2 q3 q4 q5
    go_wp2_with fail
    exact bodyPost_end (res0 rfl _ _) rfl ⟨rfl, f3, t3, H4.out.1, H4.out.2.1, H4.out.2.2.1, H3.out.2.2.2.1.trans H4.out.2.2.2 (fun _ _ h => h)⟩

theorem up_last {f : Nat → Nat} {n : Nat} (h : Hp.Heap ltK (kf g f) n) (a : Nat) : Hp.Up ltK (kf g (upd f n a)) (n + 1) n := by
  refine ⟨fun c c0 cn ce => ?_, fun c c0 cn ce _ => ?_⟩
  · have := Hp.par_lt c0
    unfold kf
    rw [upd_o f _ (by omega), upd_o f _ ce]
    exact h c c0 (by omega)
  · have := Hp.par_lt c0
    omega

set_option maxHeartbeats 2000000 in
theorem hpush_q (h : Q w qb bv pv wv mv ov vv f n g t m) (hh : Hp.Heap ltK (kf g f) n) {a : Nat} (ham : a < m) (ha : ∀ k, k < n → f k ≠ a) :
    Calls Try.prog 40 #[.iface 80 (.pointer (some ⟨qb, 1, none⟩)), .iface 3 (.int .i64 (a : Int))] w fun e w' => e = .returned (.tuple #[]) ∧ ∃ pv' f' t', Q w' qb bv pv' wv mv ov vv f' (n + 1) g t' m ∧ Hp.Heap ltK (kf g f') (n + 1) ∧ Sm (upd f n a) f' (n + 1) ∧ Fr (FW pv wv qb) w w' ∧ Gw w pv pv' := by
  obtain ⟨N, HN⟩ : ∃ N, Hid (N = n + 1) := ⟨_, rfl⟩
  have hN : (N : Int) - 1 = (n : Int) := by rw [HN.out]; omega
  have hN1 : (N : Int) ≤ 1001 := by
    have := h.nm
    have := h.few
    rw [HN.out]
    omega
  have hN0 : 0 < (N : Int) := by rw [HN.out]; omega
  have HP : Hid (Calls Try.prog 70 #[.pointer (some ⟨qb, 1, none⟩), .iface 3 (.int .i64 (a : Int))] w fun e w' => e = .returned (.tuple #[]) ∧ ∃ pv', Q w' qb bv pv' wv mv ov vv (upd f n a) N g (upd t a n) m ∧ Fr (FW pv wv qb) w w' ∧ Gw w pv pv') := by
    rw [HN.out]
    exact push_q h ham ha
  have HU : Hid (∀ W pv' t', Q W qb bv pv' wv mv ov vv (upd f n a) N g t' m → Calls Try.prog 44 #[.iface 80 (.pointer (some ⟨qb, 1, none⟩)), .int .i64 (n : Int)] W fun e w' => e = .returned (.tuple #[]) ∧ ∃ f' t', Q w' qb bv pv' wv mv ov vv f' N g t' m ∧ Hp.Heap ltK (kf g f') N ∧ Sm (upd f n a) f' N ∧ (∀ k, N ≤ k → f' k = upd f n a k) ∧ Fr (FQ pv' wv) W w') := fun W pv' t' hq => by
    have e := HN.out
    subst e
    exact up_q hq (Nat.le_refl _) (Nat.lt_succ_self n) (up_last hh a)
  have HL : Hid (∀ W pv' f' t', Q W qb bv pv' wv mv ov vv f' N g t' m → Calls Try.prog 15 #[.pointer (some ⟨qb, 1, none⟩)] W fun e w' => e = .returned (.int .i64 (N : Int)) ∧ w' = W) := fun W pv' f' t' hq => len_q hq
  have HH : Hid (∀ f', Hp.Heap ltK (kf g f') N → Hp.Heap ltK (kf g f') (n + 1)) := fun f' hf => by rw [← HN.out]; exact hf
  rw [← HN.out]
  clear h hh
  go_enter Try.func40, Try.ntmps40
  go_wp2_with fail
  refine HP.out.mono ?_
  rintro e w1 ⟨rfl, pv', q1, q2, q3⟩
  have H1 := hide q1
  have H2 := hide (And.intro q2 q3)
  clear q1 q2 q3 HP
  go_wp2_with fail
  refine (HL.out _ _ _ _ H1.out).mono ?_
  rintro e w2 ⟨rfl, hw⟩
  have hw' := hw.symm
  subst hw'
  clear hw HL
  go_wp2_with fail
  refine (HU.out _ _ _ H1.out).mono ?_
  rintro e w3 ⟨rfl, f3, t3, q1, q2, q3, q4, q5⟩
  have H4 := hide (And.intro q1 (And.intro q2 (And.intro q3 q5)))
  clear q1 q2 q3 q4 q5
  go_wp2_with fail
  refine bodyPost_end (res0 rfl _ _) rfl ⟨rfl, pv', f3, t3, H4.out.1, H4.out.2.1, H4.out.2.2.1, H2.out.1.trans H4.out.2.2.2 (fun x hx h => ?_), H2.out.2⟩
  rcases h with h | h
  · rcases H2.out.2 x h with h | h
    · exact .inl (.inl h)
    · omega
  · exact .inl (.inr h)

set_option maxHeartbeats 2000000 in
theorem hpop_q (h : Q w qb bv pv wv mv ov vv f (n + 1) g t m) (hh : Hp.Heap ltK (kf g f) (n + 1)) :
    Calls Try.prog 33 #[.iface 80 (.pointer (some ⟨qb, 1, none⟩))] w fun e w' => e = .returned (.iface 3 (.int .i64 (f 0 : Int))) ∧ ∃ pv' f' t', Q w' qb bv pv' wv mv ov vv f' n g t' m ∧ Hp.Heap ltK (kf g f') n ∧ (∀ a, In f' n a ↔ In f (n + 1) a ∧ a ≠ f 0) ∧ Fr (FW pv wv qb) w w' ∧ pv'.ownBlock = pv.ownBlock := by
  obtain ⟨N, HN⟩ : ∃ N, Hid (N = n + 1) := ⟨_, rfl⟩
  have hN : (N : Int) - 1 = (n : Int) := by rw [HN.out]; omega
  have hN1 : (N : Int) ≤ 1000 := by
    have := h.nm
    have := h.few
    rw [HN.out]
    omega
  have hN0 : 0 < (N : Int) := by rw [HN.out]; omega
  have HS : Hid (Calls Try.prog 71 #[.pointer (some ⟨qb, 1, none⟩), .int .i64 0, .int .i64 (n : Int)] w fun e w' => e = .returned (.tuple #[]) ∧ ∃ t', Q w' qb bv pv wv mv ov vv (Hp.sw f 0 n) (n + 1) g t' m ∧ Fr (FQ pv wv) w w') := (swap_q h (i := 0) (j := n) (by omega) (by omega)).mono (by
    rintro e w1 ⟨rfl, q1, q2⟩
    exact ⟨rfl, _, q1, q2⟩)
  have HL : Hid (Calls Try.prog 15 #[.pointer (some ⟨qb, 1, none⟩)] w fun e w' => e = .returned (.int .i64 (N : Int)) ∧ w' = w) := by
    rw [HN.out]
    exact len_q h
  have HD : Hid (∀ W t', Q W qb bv pv wv mv ov vv (Hp.sw f 0 n) (n + 1) g t' m → Calls Try.prog 43 #[.iface 80 (.pointer (some ⟨qb, 1, none⟩)), .int .i64 0, .int .i64 (n : Int)] W fun e w' => (∃ r, e = .returned (.bool r)) ∧ ∃ f' t', Q w' qb bv pv wv mv ov vv f' (n + 1) g t' m ∧ Hp.Heap ltK (kf g f') n ∧ Sm f f' (n + 1) ∧ f' n = f 0 ∧ Fr (FQ pv wv) W w') := fun W t' hq => (down_q hq (n' := n) (i0 := 0) (by omega) (by omega) (heap_fix hh (by omega) (fun k hk h0 => by
      unfold kf
      rw [Hp.sw_o f h0 (by omega)]))).mono (by
    rintro e w1 ⟨r, rfl, f', t', q1, q2, q3, q4, q5, q6⟩
    refine ⟨⟨r, rfl⟩, f', t', q1, ?_, (Sm.sw f (by omega) (by omega)).trans q2, (q3 n (Nat.le_refl n)).trans (Hp.sw_r f 0 n), q4⟩
    cases r with
    | true => exact q5 rfl
    | false =>
      obtain ⟨rfl, hup⟩ := q6 rfl
      exact hup.done (fun h => absurd h (Nat.lt_irrefl _)))
  have HP : Hid (∀ W f' t', Q W qb bv pv wv mv ov vv f' (n + 1) g t' m → Calls Try.prog 69 #[.pointer (some ⟨qb, 1, none⟩)] W fun e w' => e = .returned (.iface 3 (.int .i64 (f' n : Int))) ∧ ∃ pv', Q w' qb bv pv' wv mv ov vv f' n g (upd t' (f' n) (-1)) m ∧ Fr (FW pv wv qb) W w' ∧ pv'.ownBlock = pv.ownBlock) := fun W f' t' hq => pop_q hq
  clear h hh
  go_enter Try.func33, Try.ntmps33
  go_wp2_with fail
  refine HL.out.mono ?_
  rintro e w1 ⟨rfl, hw⟩
  have hw' := hw.symm
  subst hw'
  clear hw HL
  go_wp2_with fail
  refine HS.out.mono ?_
  rintro e w1 ⟨rfl, t1, q1, q2⟩
  have H1 := hide q1
  have H2 := hide q2
  clear q1 q2 HS
  go_wp2_with fail
  refine (HD.out _ _ H1.out).mono ?_
  rintro e w2 ⟨⟨r, rfl⟩, f2, t2, q1, q2, q3, q4, q5⟩
  have H3 := hide (And.intro q1 (And.intro q2 (And.intro q3 (And.intro q4 q5))))
  clear q1 q2 q3 q4 q5 HD
  go_wp2_with fail
  refine (HP.out _ _ _ H3.out.1).mono ?_
  rintro e w3 ⟨rfl, pv', q1, q2, q3⟩
  have H4 := hide (And.intro q1 (And.intro q2 q3))
  clear q1 q2 q3 HP
  go_wp2_with fail
  go_ret
  obtain ⟨q1, q2, q3⟩ := H4.out
  obtain ⟨k1, k2, k3, k4, k5⟩ := H3.out
  refine ⟨by rw [k4]; rfl, pv', f2, _, q1, k2, fun a => ?_, ((H2.out.trans k5 (fun _ _ h => h)).mono (G := FW pv wv qb) (fun _ _ h => .inl h)).trans q2 (fun _ _ h => h), q3⟩
  rw [in_last (fun i j hi hj => k1.inj hi hj) a, k4]
  exact and_congr_left (fun _ => (k3 a).symm)
end Go.Proofs.Ytjejpjpdfdcnlaa.Qu

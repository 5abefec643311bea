/- container/heap's Remove; the queue's next and remove. bindTerm and add; waiterOf. add; waiterOf. waiterOf. The walk over a body in memory; mathematics of what is bound. No walk. -/
import Derived.Test.YtjejpjpdfdcnlaaPart14
import Derived.Test.YtjejpjpdfdcnlaaPart12
import Derived.Test.YtjejpjpdfdcnlaaPart13
import Derived.Maps.OwnSet
import Derived.StringKeys
namespace Go.Proofs.Ytjejpjpdfdcnlaa.Qu
open Go.RowKit
open Vl (Fr)
variable {w w' : World} {qb : Nat} {bv pv wv mv ov vv : Value} {f : Nat → Nat} {n : Nat} {g : Nat → Kd} {t : Nat → Int} {m : Nat}

set_option maxHeartbeats 2000000 in
theorem hremove_q (h : Q w qb bv pv wv mv ov vv f (n + 1) g t m) (hh : Hp.Heap ltK (kf g f) (n + 1)) {i : Nat} (hi : i < n + 1) :
    Calls Try.prog 32 #[.iface 80 (.pointer (some ⟨qb, 1, none⟩)), .int .i64 (i : Int)] w fun e w' => e = .returned (.iface 3 (.int .i64 (f i : Int))) ∧ ∃ pv' f' t', Q w' qb bv pv' wv mv ov vv f' n g t' m ∧ Hp.Heap ltK (kf g f') n ∧ (∀ a, In f' n a ↔ In f (n + 1) a ∧ a ≠ f i) ∧ Fr (FW pv wv qb) w w' ∧ pv'.ownBlock = pv.ownBlock := by
  obtain ⟨N, HN⟩ : ∃ N, Hid (N = n + 1) := ⟨_, rfl⟩
  have hN : (N : Int) - 1 = (n : Int) := by rw [HN.out]; omega
  have hN1 : (N : Int) ≤ 1000 := by
    have := h.nm
    have := h.few
    rw [HN.out]
    omega
  have hN0 : 0 < (N : Int) := by rw [HN.out]; omega
  have HL : Hid (Calls Try.prog 15 #[.pointer (some ⟨qb, 1, none⟩)] w fun e w' => e = .returned (.int .i64 (N : Int)) ∧ w' = w) := by
    rw [HN.out]
    exact len_q h
  have HP : Hid (∀ W f' t', Q W qb bv pv wv mv ov vv f' (n + 1) g t' m → Calls Try.prog 69 #[.pointer (some ⟨qb, 1, none⟩)] W fun e w' => e = .returned (.iface 3 (.int .i64 (f' n : Int))) ∧ ∃ pv', Q w' qb bv pv' wv mv ov vv f' n g (upd t' (f' n) (-1)) m ∧ Fr (FW pv wv qb) W w' ∧ pv'.ownBlock = pv.ownBlock) := fun W f' t' hq => pop_q hq
  by_cases hin : i = n
  · subst hin
    have g1 : ((i : Int) != (i : Int)) = false := by simp
    have HQ := hide (And.intro h hh)
    clear h hh
    go_enter Try.func32, Try.ntmps32
    go_wp2_with fail
    refine HL.out.mono ?_
    rintro e w1 ⟨rfl, hw⟩
    have hw' := hw.symm
    subst hw'
    clear hw HL
    go_wp2_with fail
    refine (HP.out _ _ _ HQ.out.1).mono ?_
    rintro e w3 ⟨rfl, pv', q1, q2, q3⟩
    have H4 := hide (And.intro q1 (And.intro q2 q3))
    clear q1 q2 q3 HP
    go_wp2_with fail
    go_ret
    obtain ⟨q1, q2, q3⟩ := H4.out
    exact ⟨rfl, pv', f, _, q1, heap_le HQ.out.2 (Nat.le_succ i), fun a => in_last (fun i j hi hj => HQ.out.1.inj hi hj) a, q2, q3⟩
  · have hin' : i < n := by omega
    have g1 : ((n : Int) != (i : Int)) = true := by simp; omega
    have HS : Hid (Calls Try.prog 71 #[.pointer (some ⟨qb, 1, none⟩), .int .i64 (i : Int), .int .i64 (n : Int)] w fun e w' => e = .returned (.tuple #[]) ∧ ∃ t', Q w' qb bv pv wv mv ov vv (Hp.sw f i n) (n + 1) g t' m ∧ Fr (FQ pv wv) w w') := (swap_q h (i := i) (j := n) hi (by omega)).mono (by
      rintro e w1 ⟨rfl, q1, q2⟩
      exact ⟨rfl, _, q1, q2⟩)
    have HD : Hid (∀ W t', Q W qb bv pv wv mv ov vv (Hp.sw f i n) (n + 1) g t' m → Calls Try.prog 43 #[.iface 80 (.pointer (some ⟨qb, 1, none⟩)), .int .i64 (i : Int), .int .i64 (n : Int)] W fun e w' => ∃ r, e = .returned (.bool r) ∧ Dr W w' qb bv pv wv mv ov vv (Hp.sw f i n) (n + 1) n i g m r) := fun W t' hq => down_q hq (n' := n) (i0 := i) (by omega) (by omega) (heap_fix hh (by omega) (fun k hk h0 => by
        unfold kf
        rw [Hp.sw_o f h0 (by omega)]))
    have HU : Hid (∀ W f1 t', Q W qb bv pv wv mv ov vv f1 (n + 1) g t' m → Hp.Up ltK (kf g f1) n i → Calls Try.prog 44 #[.iface 80 (.pointer (some ⟨qb, 1, none⟩)), .int .i64 (i : Int)] W fun e w' => e = .returned (.tuple #[]) ∧ ∃ f' t', Q w' qb bv pv wv mv ov vv f' (n + 1) g t' m ∧ Hp.Heap ltK (kf g f') n ∧ Sm f1 f' (n + 1) ∧ (∀ k, n ≤ k → f' k = f1 k) ∧ Fr (FQ pv wv) W w') := fun W f1 t' hq hup => up_q hq (Nat.le_succ n) hin' hup
    have HE : Hid (∀ W W' f' t' pv', Q W qb bv pv wv mv ov vv f' (n + 1) g t' m → Hp.Heap ltK (kf g f') n → Sm (Hp.sw f i n) f' (n + 1) → f' n = Hp.sw f i n n → Fr (FQ pv wv) w W → Q W' qb bv pv' wv mv ov vv f' n g (upd t' (f' n) (-1)) m → Fr (FW pv wv qb) W W' → pv'.ownBlock = pv.ownBlock → f' n = f i ∧ ∃ pv' f' t', Q W' qb bv pv' wv mv ov vv f' n g t' m ∧ Hp.Heap ltK (kf g f') n ∧ (∀ a, In f' n a ↔ In f (n + 1) a ∧ a ≠ f i) ∧ Fr (FW pv wv qb) w W' ∧ pv'.ownBlock = pv.ownBlock) := by
      intro W W' f' t' pv' q1 q2 q3 q4 q5 q6 q7 q8
      have e : f' n = f i := q4.trans (Hp.sw_r f i n)
      refine ⟨e, pv', f', _, q6, q2, fun a => ?_, (q5.mono (G := FW pv wv qb) (fun _ _ h => .inl h)).trans q7 (fun _ _ h => h), q8⟩
      rw [in_last (fun i j hi hj => q1.inj hi hj) a, e]
      exact and_congr_left (fun _ => (((Sm.sw f hi (by omega)).trans q3) a).symm)
    clear h hh
    go_enter Try.func32, Try.ntmps32
    go_wp2_with fail
    refine HL.out.mono ?_
    rintro e w1 ⟨rfl, hw⟩
    have hw' := hw.symm
    subst hw'
    clear hw HL
    go_wp2_with fail
    refine HS.out.mono ?_
    rintro e w1 ⟨rfl, t1, q1, q2⟩
    have H1 := hide q1
    have H2 := hide q2
    clear q1 q2 HS
    go_wp2_with fail
    refine (HD.out _ _ H1.out).mono ?_
    rintro e w2 ⟨r, rfl, hd⟩
    have H3 := hide hd
    clear hd HD
    cases r with
    | true =>
      obtain ⟨f2, t2, hq⟩ := H3.out
      have H4 := hide hq
      clear hq H3
      go_wp2_with fail
      refine (HP.out _ _ _ H4.out.1).mono ?_
      rintro e w3 ⟨rfl, pv', q1, q2, q3⟩
      obtain ⟨k1, k2, k3, k4, k5, _⟩ := H4.out
      have H5 := hide (HE.out _ _ _ _ _ k1 (k5 (by simp)) k2 (k3 n (Nat.le_refl n)) (H2.out.trans k4 (fun _ _ h => h)) q1 q2 q3)
      clear q1 q2 q3 HP k1 k2 k3 k4 k5
      go_wp2_with fail
      go_ret
      exact ⟨by rw [← H5.out.1]; rfl, H5.out.2⟩
    | false =>
      obtain ⟨f2, t2, hq⟩ := H3.out
      have H4 := hide hq
      clear hq H3
      go_wp2_with fail
      refine (HU.out _ _ _ H4.out.1 (by rw [(H4.out.2.2.2.2.2 (by simp)).1]; exact (H4.out.2.2.2.2.2 (by simp)).2)).mono ?_
      rintro e w3 ⟨rfl, f3, t3, q1, q2, q3, q4, q5⟩
      obtain ⟨k1, k2, k3, k4, _, k6⟩ := H4.out
      have H6 := hide (And.intro q1 (And.intro q2 (And.intro (k2.trans q3) (And.intro ((q4 n (Nat.le_refl n)).trans (k3 n (Nat.le_refl n))) (H2.out.trans (k4.trans q5 (fun _ _ h => h)) (fun _ _ h => h))))))
      clear q1 q2 q3 q4 q5 k1 k2 k3 k4 k6
      go_wp2_with fail
      refine (HP.out _ _ _ H6.out.1).mono ?_
      rintro e w4 ⟨rfl, pv', q1, q2, q3⟩
      obtain ⟨k1, k2, k3, k4, k5⟩ := H6.out
      have H5 := hide (HE.out _ _ _ _ _ k1 k2 k3 k4 k5 q1 q2 q3)
      clear q1 q2 q3 HP k1 k2 k3 k4 k5
      go_wp2_with fail
      go_ret
      exact ⟨by rw [← H5.out.1]; rfl, H5.out.2⟩

theorem next_q (h : Q w qb bv pv wv mv ov vv f (n + 1) g t m) (hh : Hp.Heap ltK (kf g f) (n + 1)) :
    Calls Try.prog 16 #[.pointer (some ⟨qb, 1, none⟩)] w fun e w' => e = .returned (.int .i64 (f 0 : Int)) ∧ ∃ pv' f' t', Q w' qb bv pv' wv mv ov vv f' n g t' m ∧ Hp.Heap ltK (kf g f') n ∧ (∀ a, In f' n a ↔ In f (n + 1) a ∧ a ≠ f 0) ∧ Fr (FW pv wv qb) w w' ∧ pv'.ownBlock = pv.ownBlock := by
  have HP := hide (hpop_q h hh)
  have hta := ta3 (f 0 : Int)
  clear h hh
  go_enter Try.func16, Try.ntmps16
  go_wp2_with fail
  refine HP.out.mono ?_
  rintro e w1 ⟨rfl, hq⟩
  have H1 := hide hq
  clear hq HP
  go_wp2_with fail
  go_ret
  exact ⟨rfl, H1.out⟩

theorem remove_q (h : Q w qb bv pv wv mv ov vv f (n + 1) g t m) (hh : Hp.Heap ltK (kf g f) (n + 1)) {a : Nat} (ha : In f (n + 1) a) :
    Calls Try.prog 14 #[.pointer (some ⟨qb, 1, none⟩), .int .i64 (a : Int)] w fun e w' => e = .returned (.int .i64 (a : Int)) ∧ ∃ pv' f' t', Q w' qb bv pv' wv mv ov vv f' n g t' m ∧ Hp.Heap ltK (kf g f') n ∧ (∀ b, In f' n b ↔ In f (n + 1) b ∧ b ≠ a) ∧ Fr (FW pv wv qb) w w' ∧ pv'.ownBlock = pv.ownBlock := by
  obtain ⟨i, hi, rfl⟩ := ha
  have HP := hide (hremove_q h hh hi)
  have hta := ta3 (f i : Int)
  obtain ⟨gp, cp, gw, cw, rfl, rfl, n1, n2, n3, hp, hw, hpf, hwf, hn1, hm1⟩ := h.rows (by omega)
  have c2 := h.c2
  have hlt : ((f i : Nat) : Int) < (m : Int) := by have := h.lt i hi; omega
  have hx3 : w.cell? ⟨gw, f i * 4 + 3, none⟩ = some (.int .i64 (i : Int)) := by
    rw [hw (f i) 3 (h.lt i hi) (by omega), ← h.at1 i hi]
    rfl
  clear h hh hp hw hpf hwf
  go_enter Try.func14, Try.ntmps14
  go_wp2_with fail
  refine HP.out.mono ?_
  rintro e w1 ⟨rfl, hq⟩
  have H1 := hide hq
  clear hq HP
  go_wp2_with fail
  go_ret
  exact ⟨rfl, H1.out⟩
end Go.Proofs.Ytjejpjpdfdcnlaa.Qu
namespace Go.Proofs.Ytjejpjpdfdcnlaa.Qu
open Go.RowKit
open Vl (Fr)
variable {w w' : World} {qb : Nat} {bv pv wv mv ov vv : Value} {f : Nat → Nat} {n : Nat} {g : Nat → Kd} {t : Nat → Int} {m : Nat}

/-- One more term of it is bound. -/
def bump (x : Kd) : Kd := ⟨x.kind, x.bound + 1, x.free - 1⟩
theorem kf_upd_o {g : Nat → Kd} {f : Nat → Nat} {a : Nat} {x : Kd} {k : Nat} (h : f k ≠ a) : kf (upd g a x) f k = kf g f k := by
  unfold kf kyOf
  rw [upd_o g x h]
theorem heap_upd {g : Nat → Kd} {f : Nat → Nat} {n a : Nat} (x : Kd) (h : Hp.Heap ltK (kf g f) n) (ha : ∀ k, k < n → f k ≠ a) : Hp.Heap ltK (kf (upd g a x) f) n := fun c c0 cn => by
  have := Hp.par_lt c0
  rw [kf_upd_o (ha c cn), kf_upd_o (ha (Hp.par c) (by omega))]
  exact h c c0 cn

set_option maxHeartbeats 2000000 in
theorem bindTerm_q (h : Q w qb bv pv wv mv ov vv f n g t m) (hh : Hp.Heap ltK (kf g f) n) {a : Nat} (ha : a < m) (hb : -1000000 ≤ (g a).bound ∧ (g a).bound ≤ 1000000) (hfr : -1000000 ≤ (g a).free ∧ (g a).free ≤ 1000000) :
    Calls Try.prog 42 #[.pointer (some ⟨qb, 1, none⟩), .int .i64 (a : Int)] w fun e w' => e = .returned (.tuple #[]) ∧ ∃ f' t', Q w' qb bv pv wv mv ov vv f' n (upd g a (bump (g a))) t' m ∧ Hp.Heap ltK (kf (upd g a (bump (g a))) f') n ∧ Sm f f' n ∧ Fr (FQ pv wv) w w' := by
  obtain ⟨gw, cw, rfl, _, _, hw, hwf⟩ := own_open h.x (by omega)
  have c2 := h.c2
  have hlI : (a : Int) < (m : Int) := by omega
  have hmI : (m : Int) ≤ 1000 := by have := h.few; omega
  obtain ⟨xb, hxb⟩ : ∃ xb, (g a).bound = xb := ⟨_, rfl⟩
  obtain ⟨xf, hxf⟩ : ∃ xf, (g a).free = xf := ⟨_, rfl⟩
  obtain ⟨xt, hxt⟩ : ∃ xt, t a = xt := ⟨_, rfl⟩
  have x1 : w.cell? ⟨gw, a * 4 + 1, none⟩ = some (.int .i64 xb) := by rw [← hxb]; exact (hw (a * 4 + 1) (by omega)).trans (rowW_get g t m a 1 ha (by omega))
  have x2 : w.cell? ⟨gw, a * 4 + 2, none⟩ = some (.int .i64 xf) := by rw [← hxf]; exact (hw (a * 4 + 2) (by omega)).trans (rowW_get g t m a 2 ha (by omega))
  have x3 : w.cell? ⟨gw, a * 4 + 3, none⟩ = some (.int .i64 xt) := by rw [← hxt]; exact (hw (a * 4 + 3) (by omega)).trans (rowW_get g t m a 3 ha (by omega))
  have f1 := hwf (a * 4 + 1)
  have f2 := hwf (a * 4 + 2)
  have n3 : gw ≠ qb := fun e => by subst e; exact h.wq rfl
  rw [hxb] at hb
  rw [hxf] at hfr
  have hb1 := hb.1
  have hb2 := hb.2
  have hf1 := hfr.1
  have hf2 := hfr.2
  have HW : Hid (∀ u, ((w.setCell ⟨gw, a * 4 + 1, none⟩ (.int .i64 (xb + 1))).setCell ⟨gw, a * 4 + 2, none⟩ (.int .i64 (xf - 1))) = u → u.cell? ⟨gw, a * 4 + 3, none⟩ = some (.int .i64 xt) ∧ Hid (Q u qb bv pv (.slice (some ⟨gw, 0, none⟩) m cw) mv ov vv f n (upd g a (bump (g a))) t m ∧ Fr (FQ pv (.slice (some ⟨gw, 0, none⟩) m cw)) w u)) := by
    rintro u rfl
    have hf : Fr (fun k => k = gw) w ((w.setCell ⟨gw, a * 4 + 1, none⟩ (.int .i64 (xb + 1))).setCell ⟨gw, a * 4 + 2, none⟩ (.int .i64 (xf - 1))) := (Vl.Fr.one w gw _ _).setCell (p := ⟨gw, a * 4 + 2, none⟩) (fun _ => rfl) _
    have hx := own_set (j := a * 4 + 2) (own_set (j := a * 4 + 1) h.x (.int .i64 (xb + 1))) (.int .i64 (xf - 1))
    rw [rowW_set12] at hx
    have e : (⟨(g a).kind, xb + 1, xf - 1⟩ : Kd) = bump (g a) := by rw [← hxb, ← hxf]; rfl
    rw [e] at hx
    refine ⟨?_, ⟨(hf.block qb (Array.getElem?_eq_some_iff.1 h.b).1 (Ne.symm n3)).trans h.b, own_of_cell h.p hf (fun k hk e => by subst hk; exact h.pw e rfl), hx, h.few, h.lt, h.at1, h.at2⟩, hf.mono (fun x _ e => by subst e; exact .inr rfl)⟩
    exact (World.cell?_setCell_other _ _ _ _ (by simp)).trans ((World.cell?_setCell_other _ _ _ _ (by simp)).trans x3)
  by_cases hxa : xt = -1
  · have hna : ∀ k, k < n → f k ≠ a := fun k hk e => by
      have := h.at1 k hk
      rw [e, hxt] at this
      omega
    have g1 : (xt != -1) = false := by simp [hxa]
    have HH := hide (heap_upd (bump (g a)) hh hna)
    clear h hh hw hwf
    go_enter Try.func42, Try.ntmps42
    go_upto_region 3 with fail
    generalize hu : (w.setCell ⟨gw, a * 4 + 1, none⟩ (.int .i64 (xb + 1))).setCell ⟨gw, a * 4 + 2, none⟩ (.int .i64 (xf - 1)) = u
    obtain ⟨d1, H1⟩ := HW.out u hu
    clear HW hu x1 x2 x3 f1 f2
    go_wp2_with fail
    exact bodyPost_end (res0 rfl _ _) rfl ⟨rfl, f, t, H1.out.1, HH.out, Sm.refl _ _, H1.out.2⟩
  · have hin : ∃ k, k < n ∧ f k = a := by
      refine Classical.byContradiction fun hno => hxa ?_
      rw [← hxt]
      exact h.at2 a ha (fun k hk e => hno ⟨k, hk, e⟩)
    obtain ⟨i, hi, hia⟩ := hin
    have hxi : xt = (i : Int) := by rw [← hxt, ← hia]; exact h.at1 i hi
    subst hxi
    have g1 : (((i : Nat) : Int) != -1) = true := by simp
    have HX : Hid (∀ W, Q W qb bv pv (.slice (some ⟨gw, 0, none⟩) m cw) mv ov vv f n (upd g a (bump (g a))) t m → Calls Try.prog 50 #[.iface 80 (.pointer (some ⟨qb, 1, none⟩)), .int .i64 (i : Int)] W fun e w' => e = .returned (.tuple #[]) ∧ ∃ f' t', Q w' qb bv pv (.slice (some ⟨gw, 0, none⟩) m cw) mv ov vv f' n (upd g a (bump (g a))) t' m ∧ Hp.Heap ltK (kf (upd g a (bump (g a))) f') n ∧ Sm f f' n ∧ Fr (FQ pv (.slice (some ⟨gw, 0, none⟩) m cw)) W w') := fun W hq => fix_q hq hi (heap_fix hh (Nat.le_refl n) (fun k hk hne => kf_upd_o (fun e => hne (h.inj hk hi (e.trans hia.symm)))))
    clear h hh hw hwf
    go_enter Try.func42, Try.ntmps42
    go_upto_region 3 with fail
    generalize hu : (w.setCell ⟨gw, a * 4 + 1, none⟩ (.int .i64 (xb + 1))).setCell ⟨gw, a * 4 + 2, none⟩ (.int .i64 (xf - 1)) = u
    obtain ⟨d1, H1⟩ := HW.out u hu
    clear HW hu x1 x2 x3 f1 f2 hxt
    go_wp2_with fail
    refine (HX.out _ H1.out.1).mono ?_
    rintro e w2 ⟨rfl, f', t', q1, q2, q3, q4⟩
    have H2 := hide (And.intro q1 (And.intro q2 (And.intro q3 q4)))
    clear q1 q2 q3 q4 HX
    go_wp2_with fail
    exact bodyPost_end (res0 rfl _ _) rfl ⟨rfl, f', t', H2.out.1, H2.out.2.1, H2.out.2.2.1, H1.out.2.trans H2.out.2.2.2 (fun _ _ h => h)⟩
end Go.Proofs.Ytjejpjpdfdcnlaa.Qu
namespace Go.Proofs.Ytjejpjpdfdcnlaa.Qu
open Go.RowKit
open Vl (Fr)
variable {w w' : World} {qb : Nat} {bv pv wv mv ov vv : Value} {f : Nat → Nat} {n : Nat} {g : Nat → Kd} {t : Nat → Int} {m : Nat}

theorem kf_upd_lt {g : Nat → Kd} {f : Nat → Nat} {n m : Nat} (x : Kd) (h : Hp.Heap ltK (kf g f) n) (hl : ∀ k, k < n → f k < m) : Hp.Heap ltK (kf (upd g m x) f) n := heap_upd x h (fun k hk e => by have := hl k hk; omega)

set_option maxHeartbeats 2000000 in
theorem add_q (h : Q w qb bv pv wv mv ov vv f n g t m) (hh : Hp.Heap ltK (kf g f) n) (hm : m + 1 ≤ 1000) (x : Kd) :
    Calls Try.prog 29 #[.pointer (some ⟨qb, 1, none⟩), .agg #[.int .i64 x.kind, .int .i64 x.bound, .int .i64 x.free, .int .i64 (-1)]] w fun e w' => e = .returned (.tuple #[]) ∧ ∃ pv' wv' f' t', Q w' qb bv pv' wv' mv ov vv f' (n + 1) (upd g m x) t' (m + 1) ∧ Hp.Heap ltK (kf (upd g m x) f') (n + 1) ∧ Sm (upd f n m) f' (n + 1) ∧ Fr (FW pv wv qb) w w' ∧ Gw w pv pv' ∧ Gw w wv wv' := by
  obtain ⟨xk, xb, xf⟩ := x
  dsimp only
  obtain ⟨U, hU⟩ : ∃ U, U = w.alloc (.cells #[.int .i64 xk, .int .i64 xb, .int .i64 xf, .int .i64 (-1)] 76) := ⟨_, rfl⟩
  have hbU : Below w.heap.size w U := by rw [hU]; exact (Below.refl _ w).alloc (Nat.le_refl _) _
  have hQU := h.below hbU
  have HU := hide hU
  have hnew : U.heap[w.heap.size]? = some (.cells #[.int .i64 xk, .int .i64 xb, .int .i64 xf, .int .i64 (-1)] 76 (0, 0)) := by rw [hU]; exact heap_alloc_new _ _
  have b0 : U.cell? ⟨w.heap.size, 0, none⟩ = some (.int .i64 xk) := by rw [cell_of_row U _ 0 _ _ _ hnew]; rfl
  have b1 : U.cell? ⟨w.heap.size, 1, none⟩ = some (.int .i64 xb) := by rw [cell_of_row U _ 1 _ _ _ hnew]; rfl
  have b2 : U.cell? ⟨w.heap.size, 2, none⟩ = some (.int .i64 xf) := by rw [cell_of_row U _ 2 _ _ _ hnew]; rfl
  have b3 : U.cell? ⟨w.heap.size, 3, none⟩ = some (.int .i64 (-1)) := by rw [cell_of_row U _ 3 _ _ _ hnew]; rfl
  have c2 := hQU.c2
  have c2a := fun o => (World.cell?_of_block (((Below.refl U.heap.size U).alloc (Nat.le_refl _) o).block qb (World.block_lt_of_cell? U _ c2))).trans c2
  obtain ⟨gw, cw, w3, hr, k1, k2, k3⟩ := push_row 49 76 4 32 _ Try.underlying49 Try.info76 rfl (by decide) (by decide) (W := U.drew) hQU.x (cellW ⟨xk, xb, xf⟩ (-1)) rfl (by simp [cellW, Value.oneCell']) (by omega)
  have hnq : ¬ wv.ownBlock = some qb := h.wq
  have e1 := k2.out.cell (w := U.drew) c2 hnq
  have e2 := (k2.out.frozen (w := U.drew) c2 hnq).trans (hQU.fz 2)
  have hb3 : w3.heap[qb]? = some (.cells #[bv, pv, wv, mv, ov, vv] 54 (0, 0)) := by
    rw [k2.out.block qb (Array.getElem?_eq_some_iff.1 hQU.b).1 hnq]
    exact hQU.b
  have hq : gw ≠ qb := fun e => by
    subst e
    obtain ⟨cur, hc⟩ := own_blk k1.out (k := gw) rfl
    rw [hc] at hb3
    simp at hb3
  obtain ⟨M, HM⟩ : ∃ M, Hid (M = m + 1) := ⟨_, rfl⟩
  have hM : (M : Int) - 1 = (m : Int) := by rw [HM.out]; omega
  have hM1 : (M : Int) ≤ 1000 := by rw [HM.out]; omega
  have hM0 : 0 < (M : Int) := by rw [HM.out]; omega
  obtain ⟨V, hV⟩ : ∃ V, V = w3.setCell ⟨qb, 2, none⟩ (.slice (some ⟨gw, 0, none⟩) M cw) := ⟨_, rfl⟩
  have HV : Hid (Q V qb bv pv (.slice (some ⟨gw, 0, none⟩) M cw) mv ov vv f n (upd g m ⟨xk, xb, xf⟩) (upd t m (-1)) M ∧ Fr (FW pv wv qb) w V ∧ Gw w wv (.slice (some ⟨gw, 0, none⟩) M cw) ∧ w.heap.size ≤ V.heap.size) := by
    have e := HM.out
    subst e
    have h1 : Fr (fun k => k = qb) w3 V := by rw [hV]; exact Vl.Fr.one _ _ _ _
    have hfr : Fr (FW pv wv qb) w V := ((Fr.of_below (F := FW pv wv qb) hbU).trans (G := fun k => wv.ownBlock = some k) (show Fr _ U w3 from ⟨k2.out.os, k2.out.tape, k2.out.output, k2.out.size, k2.out.block⟩) (fun k _ e => .inl (.inr e))).trans h1 (fun k _ e => .inr e)
    refine ⟨⟨?_, ?_, ?_, hm, fun k hk => ?_, fun k hk => ?_, fun a ha hno => ?_⟩, hfr, fun k hk => ?_, hfr.size⟩
    · rw [hV]
      show (w3.setCell ⟨qb, 2, none⟩ _).heap[qb]? = _
      rw [Vl.heap_set hb3]
      rfl
    · exact own_of_cell (own_of_cell (w := U.drew) hQU.p k2.out (fun k hk e => hQU.pw e hk)) h1 (fun k hk e => by subst hk; exact hQU.pq e)
    · have h2 := own_of_cell k1.out h1 (fun k hk e => by subst hk; simp [Value.ownBlock] at e; exact hq e)
      have e : rowW g t m ++ cellW ⟨xk, xb, xf⟩ (-1) = rowW (upd g m ⟨xk, xb, xf⟩) (upd t m (-1)) (m + 1) := by
        rw [rowW_succ, upd_s, upd_s]
        congr 1
        exact rowW_congr (fun k hk => ⟨(upd_o g _ (by omega)).symm, (upd_o t _ (by omega)).symm⟩)
      rw [e] at h2
      exact h2
    · have := h.lt k hk; omega
    · have := h.lt k hk
      rw [upd_o t _ (by omega)]
      exact h.at1 k hk
    · by_cases e : a = m
      · subst e; exact upd_s _ _ _
      · rw [upd_o t _ e]
        exact h.at2 a (by omega) hno
    · rcases k3.out k hk with h | h
      · exact .inl h
      · have := hbU.size
        have h' : U.heap.size ≤ k := h
        exact .inr (by omega)
  have HP : Hid (Calls Try.prog 40 #[.iface 80 (.pointer (some ⟨qb, 1, none⟩)), .iface 3 (.int .i64 (m : Int))] V fun e w' => e = .returned (.tuple #[]) ∧ ∃ pv' f' t', Q w' qb bv pv' (.slice (some ⟨gw, 0, none⟩) M cw) mv ov vv f' (n + 1) (upd g m ⟨xk, xb, xf⟩) t' M ∧ Hp.Heap ltK (kf (upd g m ⟨xk, xb, xf⟩) f') (n + 1) ∧ Sm (upd f n m) f' (n + 1) ∧ Fr (FW pv (.slice (some ⟨gw, 0, none⟩) M cw) qb) V w' ∧ Gw V pv pv') :=
    hpush_q HV.out.1 (kf_upd_lt _ hh h.lt) (by rw [HM.out]; omega) (fun k hk e => by have := h.lt k hk; omega)
  have HE : Hid (∀ wz, (∃ pv' f' t', Q wz qb bv pv' (.slice (some ⟨gw, 0, none⟩) M cw) mv ov vv f' (n + 1) (upd g m ⟨xk, xb, xf⟩) t' M ∧ Hp.Heap ltK (kf (upd g m ⟨xk, xb, xf⟩) f') (n + 1) ∧ Sm (upd f n m) f' (n + 1) ∧ Fr (FW pv (.slice (some ⟨gw, 0, none⟩) M cw) qb) V wz ∧ Gw V pv pv') → ∃ pv' wv' f' t', Q wz qb bv pv' wv' mv ov vv f' (n + 1) (upd g m ⟨xk, xb, xf⟩) t' M ∧ Hp.Heap ltK (kf (upd g m ⟨xk, xb, xf⟩) f') (n + 1) ∧ Sm (upd f n m) f' (n + 1) ∧ Fr (FW pv wv qb) w wz ∧ Gw w pv pv' ∧ Gw w wv wv') := by
    rintro wz ⟨pv', f', t', q1, q2, q3, q4, q5⟩
    refine ⟨pv', _, f', t', q1, q2, q3, HV.out.2.1.trans q4 (fun k hk h => ?_), fun k hk => ?_, HV.out.2.2.1⟩
    · rcases h with (h | h) | h
      · exact .inl (.inl h)
      · rcases HV.out.2.2.1 k h with h | h
        · exact .inl (.inr h)
        · omega
      · exact .inr h
    · rcases q5 k hk with h | h
      · exact .inl h
      · have := HV.out.2.2.2
        exact .inr (by omega)
  have v2 := HV.out.1.c2
  have HHM := HM.out
  rw [← HHM]
  have hr' : ∀ ty, (Builtin.append_ #[49, 49] ty #[wv, .slice (some ⟨U.heap.size, 0, none⟩) 1 1]).run Try.prog (U.drew.alloc (.cells #[.int .i64 xk, .int .i64 xb, .int .i64 xf, .int .i64 (-1)] 76)) = .ok (.slice (some ⟨gw, 0, none⟩) M cw) w3 := by
    rw [HHM]
    exact hr
  have HVV := hide hV
  clear h hh hr hm hQU hnew hbU hb3 k1 k2 k3 HHM hU hV
  go_enter Try.func29, Try.ntmps29
  go_upto_region 1 with fail
  rw [← HU.out]
  refine wp_region_noPanic ?_
  go_region_law (refine Vl.step_append_run rfl (.tmp 8) (.tmp 10) 49 49 rfl wv (.slice (some ⟨U.heap.size, 0, none⟩) 1 1) (by simp [Act.eval]) (by simp [Act.eval]) (hr' _) ?_)
  all_goals refine NoPanic.normal ?_
  all_goals rw [← HVV.out]
  all_goals clear c2 c2a e1 e2 b0 b1 b2 b3 hr'
  all_goals go_wp2_with fail
  all_goals refine HP.out.mono ?_
  all_goals rintro e wz ⟨rfl, pv', f', t', q1, q2, q3, q4, q5⟩
  all_goals have H5 := hide (And.intro q1 (And.intro q2 (And.intro q3 (And.intro q4 q5))))
  all_goals clear q1 q2 q3 q4 q5 HP
  all_goals go_wp2_with fail
  all_goals exact bodyPost_end (res0 rfl _ _) rfl ⟨rfl, HE.out _ ⟨pv', f', t', H5.out⟩⟩
end Go.Proofs.Ytjejpjpdfdcnlaa.Qu
namespace Go.Proofs.Ytjejpjpdfdcnlaa.Qu
open Go.RowKit
open Vl (Fr Tm)
open Sy (isTs Bx)
open Ck (TsB)

def varB (t : Tm) : Bool := decide (t.1 = 1)
def cstB (t : Tm) : Bool := decide (t.1 = 2) || decide (t.1 = 3)
theorem count_take {α : Type} {p : α → Bool} {ls : List α} {k : Nat} (h : k < ls.length) : (ls.take (k + 1)).countP p = (ls.take k).countP p + (if p ls[k] = true then 1 else 0) := by
  rw [List.take_succ_eq_append_getElem h, List.countP_append, List.countP_cons, List.countP_nil, Nat.zero_add]
theorem count_le {α : Type} (p : α → Bool) (ls : List α) (k : Nat) : (ls.take k).countP p ≤ k := Nat.le_trans List.countP_le_length (by simp; omega)
theorem results_cellR {fn : Func} {p : Tmp} {ty : TypeId} (h : fn.results = #[.cell p ty]) (tmps : Array Value) (w : World) (g : Nat) (T : TypeId) (cs : Array Value) {d}
    (hp : tmps.getD p undef = .pointer (some ⟨g, 0, none⟩)) (hg : w.heap[g]? = some (.cells cs T (0, 0)))
    (hu : Try.prog.underlying ty = some (.struct d)) (hi : (Try.prog.info? ty).map (·.size) = some cs.size) : (results fn tmps).run Try.prog w = .ok (.agg cs) w :=
  results_cell_row h tmps w g T cs (0, 0) _ hp hg hu rfl hi
theorem sz76 : (Try.prog.info? 76).map (·.size) = some 4 := by kernel_rfl
/-- The waiter that is made, in memory. -/
structure Wk (w wr : World) (k b f : Int) : Prop where
  bel : Below w.heap.size w wr
  r : Bx wr (w.heap.size + 1) 76 #[.int .i64 0, .int .i64 0, .int .i64 0, .int .i64 0]
  x : Bx wr (w.heap.size + 2) 76 #[.int .i64 k, .int .i64 b, .int .i64 f, .int .i64 (-1)]
theorem Wk.alloc {w wr : World} {k b f : Int} (h : Wk w wr k b f) (o : Obj) : Wk w (wr.alloc o) k b f :=
  ⟨h.bel.trans (((Below.refl _ wr).alloc (Nat.le_refl _) o).mono h.bel.size), h.r.below ((Below.refl _ wr).alloc (Nat.le_refl _) o), h.x.below ((Below.refl _ wr).alloc (Nat.le_refl _) o)⟩
theorem Wk.s1 {w wr : World} {k b f : Int} (h : Wk w wr k b f) (v : Int) : Wk w (wr.setCell ⟨w.heap.size + 2, 1, none⟩ (.int .i64 v)) k v f :=
  ⟨h.bel.trans ((Vl.Fr.one wr (w.heap.size + 2) 1 (.int .i64 v)).below (fun k e => by omega) h.bel.size), h.r.fr (Vl.Fr.one wr (w.heap.size + 2) 1 (.int .i64 v)) (by omega), h.x.set 1 (.int .i64 v)⟩
theorem Wk.s2 {w wr : World} {k b f : Int} (h : Wk w wr k b f) (v : Int) : Wk w (wr.setCell ⟨w.heap.size + 2, 2, none⟩ (.int .i64 v)) k b v :=
  ⟨h.bel.trans ((Vl.Fr.one wr (w.heap.size + 2) 2 (.int .i64 v)).below (fun k e => by omega) h.bel.size), h.r.fr (Vl.Fr.one wr (w.heap.size + 2) 2 (.int .i64 v)) (by omega), h.x.set 2 (.int .i64 v)⟩

set_option maxHeartbeats 4000000 in
theorem waiterOf_any {w : World} (l : Sy.Lit) {va : Value} (h : isTs w l.2.2 va) (hl : l.2.2.length ≤ 1000000) :
    Calls Try.prog 30 #[.agg #[.int .i64 l.1, .string l.2.1, va]] w fun e w' => e = .returned (.agg #[.int .i64 l.1, .int .i64 (l.2.2.countP cstB : Int), .int .i64 (l.2.2.countP varB : Int), .int .i64 (-1)]) ∧ Below w.heap.size w w' := by
  obtain ⟨lk, ln, ts⟩ := l
  dsimp only at h hl ⊢
  obtain ⟨ao, cap, rfl, _, hc⟩ := TsB.of h hl
  have HC := hide hc
  clear hc h
  have hlI : (ts.length : Int) ≤ 1000000 := by omega
  obtain ⟨cb, Hcb⟩ : ∃ cb : Nat, Hid (cb = ts.countP cstB) := ⟨_, rfl⟩
  obtain ⟨cf, Hcf⟩ : ∃ cf : Nat, Hid (cf = ts.countP varB) := ⟨_, rfl⟩
  rw [← Hcb.out, ← Hcf.out]
  go_enter Try.func30, Try.ntmps30
  go_wp2_with fail
  generalize hW : ((w.alloc (.cells #[.int .i64 lk, .string ln, .slice ao ts.length cap] 27)).alloc (.cells #[.int .i64 0, .int .i64 0, .int .i64 0, .int .i64 0] 76)).alloc (.cells #[.int .i64 lk, .int .i64 0, .int .i64 0, .int .i64 (-1)] 76) = w1
  have HK : Hid (Wk w w1 lk 0 0) := by
    rw [← hW]
    have h1 : Bx ((w.alloc (.cells #[.int .i64 lk, .string ln, .slice ao ts.length cap] 27)).alloc (.cells #[.int .i64 0, .int .i64 0, .int .i64 0, .int .i64 0] 76)) (w.heap.size + 1) 76 #[.int .i64 0, .int .i64 0, .int .i64 0, .int .i64 0] := by
      have := Bx.new (w.alloc (.cells #[.int .i64 lk, .string ln, .slice ao ts.length cap] 27)) #[.int .i64 0, .int .i64 0, .int .i64 0, .int .i64 0] 76
      rw [World.size_alloc] at this
      exact this
    have h2 := Bx.new ((w.alloc (.cells #[.int .i64 lk, .string ln, .slice ao ts.length cap] 27)).alloc (.cells #[.int .i64 0, .int .i64 0, .int .i64 0, .int .i64 0] 76)) #[.int .i64 lk, .int .i64 0, .int .i64 0, .int .i64 (-1)] 76
    rw [World.size_alloc, World.size_alloc] at h2
    exact ⟨(((Below.refl _ w).alloc (Nat.le_refl _) _).alloc (by simp) _).alloc (by simp; omega) _, h1.below ((Below.refl _ _).alloc (Nat.le_refl _) _), h2⟩
  clear hW
  go_loopw [12] (fun iv wr => ∃ i : Nat, iv = .int .i64 (i : Int) ∧ i ≤ ts.length ∧ Hid (Wk w wr lk ((ts.take i).countP cstB : Nat) ((ts.take i).countP varB : Nat))) (fun iv _ => ts.length - (intOf iv).toNat)
  case atStart => exact ⟨0, rfl, Nat.zero_le _, HK⟩
  case round =>
    obtain ⟨i, rfl, hi, HI⟩ := hrel
    clear HK
    by_cases hlt : i < ts.length
    · have hltI : (i : Int) < (ts.length : Int) := by omega
      obtain ⟨gt, off, rfl, hgt, hc⟩ := HC.out (by omega)
      obtain ⟨t0, t1, t2⟩ := hc i hlt
      have hb := HI.out.bel
      have t0 := (hb.cell (p := ⟨gt, _, none⟩) hgt).trans t0
      have t1 := (hb.cell (p := ⟨gt, _, none⟩) hgt).trans t1
      have t2 := (hb.cell (p := ⟨gt, _, none⟩) hgt).trans t2
      have HCV := hide (count_take (p := varB) hlt)
      have HCC := hide (count_take (p := cstB) hlt)
      have HLV := count_le varB ts i
      have HLC := count_le cstB ts i
      clear hc hb
      generalize ts[i] = t at *
      obtain ⟨tk, tn, tz⟩ := t
      dsimp only at t0 t1 t2
      obtain ⟨nv, Hnv⟩ : ∃ nv : Nat, Hid ((ts.take i).countP varB = nv) := ⟨_, rfl⟩
      obtain ⟨nc, Hnc⟩ : ∃ nc : Nat, Hid ((ts.take i).countP cstB = nc) := ⟨_, rfl⟩
      have HI' : Hid (Wk w wr lk (nc : Int) (nv : Int)) := by rw [← Hnv.out, ← Hnc.out]; exact HI.out
      rw [Hnv.out] at HLV
      rw [Hnc.out] at HLC
      have hv1 : (nv : Int) ≤ 1000000 := by omega
      have hc1 : (nc : Int) ≤ 1000000 := by omega
      have HA := hide (HI'.out.alloc (.cells #[.int .i64 tk, .string tn, .int .i64 tz] 79))
      have x1 : (wr.alloc (.cells #[.int .i64 tk, .string tn, .int .i64 tz] 79)).cell? ⟨w.heap.size + 2, 1, none⟩ = some (.int .i64 (nc : Int)) := by rw [HA.out.x.c 1]; rfl
      have x2 : (wr.alloc (.cells #[.int .i64 tk, .string tn, .int .i64 tz] 79)).cell? ⟨w.heap.size + 2, 2, none⟩ = some (.int .i64 (nv : Int)) := by rw [HA.out.x.c 2]; rfl
      have f1 := HA.out.x.f 1
      have f2 := HA.out.x.f 2
      have hme : ts.length - (intOf (.int .i64 ((i : Int) + 1))).toNat < ts.length - (intOf (.int .i64 (i : Int))).toNat := by
        simp [intOf]
        omega
      have HME := hide hme
      clear hme HI HLV HLC
      by_cases k1 : tk = 1
      · subst k1
        have HF : Hid (Wk w ((wr.alloc (.cells #[.int .i64 1, .string tn, .int .i64 tz] 79)).setCell ⟨w.heap.size + 2, 2, none⟩ (.int .i64 ((nv : Int) + 1))) lk ((ts.take (i + 1)).countP cstB : Nat) ((ts.take (i + 1)).countP varB : Nat)) := by
          have := HA.out.s2 ((nv : Int) + 1)
          rw [HCV.out, HCC.out, Hnv.out, Hnc.out]
          exact this
        go_wp2_with fail
        exact ⟨⟨i + 1, by simp, by omega, HF.out⟩, HME.out⟩
      · by_cases k2 : tk = 2
        · subst k2
          have HF : Hid (Wk w ((wr.alloc (.cells #[.int .i64 2, .string tn, .int .i64 tz] 79)).setCell ⟨w.heap.size + 2, 1, none⟩ (.int .i64 ((nc : Int) + 1))) lk ((ts.take (i + 1)).countP cstB : Nat) ((ts.take (i + 1)).countP varB : Nat)) := by
            have := HA.out.s1 ((nc : Int) + 1)
            rw [HCV.out, HCC.out, Hnv.out, Hnc.out]
            exact this
          go_wp2_with fail
          exact ⟨⟨i + 1, by simp, by omega, HF.out⟩, HME.out⟩
        · by_cases k3 : tk = 3
          · subst k3
            have HF : Hid (Wk w ((wr.alloc (.cells #[.int .i64 3, .string tn, .int .i64 tz] 79)).setCell ⟨w.heap.size + 2, 1, none⟩ (.int .i64 ((nc : Int) + 1))) lk ((ts.take (i + 1)).countP cstB : Nat) ((ts.take (i + 1)).countP varB : Nat)) := by
              have := HA.out.s1 ((nc : Int) + 1)
              rw [HCV.out, HCC.out, Hnv.out, Hnc.out]
              exact this
            go_wp2_with fail
            exact ⟨⟨i + 1, by simp, by omega, HF.out⟩, HME.out⟩
          · have HF : Hid (Wk w (wr.alloc (.cells #[.int .i64 tk, .string tn, .int .i64 tz] 79)) lk ((ts.take (i + 1)).countP cstB : Nat) ((ts.take (i + 1)).countP varB : Nat)) := by
              have := HA.out
              rw [HCV.out, HCC.out, Hnv.out, Hnc.out]
              simp only [varB, cstB, k1, k2, k3]
              exact this
            go_wp2_with fail
            exact ⟨⟨i + 1, by simp, by omega, HF.out⟩, HME.out⟩
    · have hile : i = ts.length := by omega
      subst hile
      have HI2 : Hid (Wk w wr lk (cb : Int) (cf : Int)) := by
        rw [Hcb.out, Hcf.out]
        have := HI.out
        rw [List.take_length] at this
        exact this
      have y0 := HI2.out.x.c 0
      have y1 := HI2.out.x.c 1
      have y2 := HI2.out.x.c 2
      have y3 := HI2.out.x.c 3
      have z0 := HI2.out.r.c 0
      have z1 := HI2.out.r.c 1
      have z2 := HI2.out.r.c 2
      have z3 := HI2.out.r.c 3
      have r0 := HI2.out.r.f 0
      have r1 := HI2.out.r.f 1
      have r2 := HI2.out.r.f 2
      have r3 := HI2.out.r.f 3
      clear HI HC
      go_wp2_with fail
      refine bodyPost_ret (results_cellR rfl _ _ (w.heap.size + 1) 76 #[.int .i64 lk, .int .i64 (cb : Int), .int .i64 (cf : Int), .int .i64 (-1)] rfl ?_ Try.underlying76 sz76) rfl ?_
      · have h0 := (((HI2.out.r.set 0 (.int .i64 lk)).set 1 (.int .i64 (cb : Int))).set 2 (.int .i64 (cf : Int))).set 3 (.int .i64 (-1))
        exact h0
      · refine ⟨rfl, HI2.out.bel.trans ?_⟩
        exact ((((Fr.refl (fun k => k = w.heap.size + 1) wr).setCell (p := ⟨w.heap.size + 1, 0, none⟩) (fun _ => rfl) _).setCell (p := ⟨w.heap.size + 1, 1, none⟩) (fun _ => rfl) _).setCell (p := ⟨w.heap.size + 1, 2, none⟩) (fun _ => rfl) _).setCell (p := ⟨w.heap.size + 1, 3, none⟩) (fun _ => rfl) _ |>.below (fun k e => by omega) HI2.out.bel.size
end Go.Proofs.Ytjejpjpdfdcnlaa.Qu
namespace Go.Proofs.Ytjejpjpdfdcnlaa.Qu
open Go.RowKit
open Vl (Fr Tm)
open Sy (isTs isLs Bx)
open Ck (TsB Nm)

/-- An element of the map reads as itself. -/
def heldR : Value → Option (DataW Value × List MemPlace) := fun v => some (.held v, [])
def kl (x : Nm) : Lit := .string x.1.data.toList
/-- The term is the variable x. -/
def isV (x : Nm) (t : Tm) : Bool := varB t && (t.2.1.data.toList == x.1.data.toList)
def hasT (H : List Nm) (t : Tm) : Bool := H.any fun y => y.1.data.toList == t.2.1.data.toList
def bndT (H : List Nm) (t : Tm) : Bool := cstB t || (varB t && hasT H t)
def freT (H : List Nm) (t : Tm) : Bool := varB t && !hasT H t
def cnt (x : Nm) (ts : List Tm) : Nat := ts.countP (isV x)
def kdL (H : List Nm) (l : Sy.Lit) : Kd := ⟨l.1, (l.2.2.countP (bndT H) : Nat), (l.2.2.countP (freT H) : Nat)⟩
def litAt (ls : List Sy.Lit) (a : Nat) : Sy.Lit := ls.getD a (0, ⟨#[]⟩, [])
def gOf (ls : List Sy.Lit) (H : List Nm) : Nat → Kd := fun a => kdL H (litAt ls a)
theorem litAt_get {ls : List Sy.Lit} {a : Nat} (h : a < ls.length) : litAt ls a = ls[a] := by simp [litAt, h]
theorem kdL_nil (l : Sy.Lit) : kdL [] l = ⟨l.1, (l.2.2.countP cstB : Nat), (l.2.2.countP varB : Nat)⟩ := by
  unfold kdL
  have e1 : bndT [] = cstB := by funext t; simp [bndT, hasT]
  have e2 : freT [] = varB := by funext t; simp [freT, hasT]
  rw [e1, e2]
theorem term_add (H : List Nm) (x : Nm) (hx : Ck.inS H x = false) (t : Tm) : (bndT (H ++ [x]) t = true ↔ (bndT H t = true ∨ isV x t = true)) ∧ (freT H t = true ↔ (freT (H ++ [x]) t = true ∨ isV x t = true)) ∧ (isV x t = true → bndT H t = false ∧ freT (H ++ [x]) t = false) := by
  have hh : hasT (H ++ [x]) t = (hasT H t || (x.1.data.toList == t.2.1.data.toList)) := by simp [hasT]
  have hc : varB t = true → cstB t = false := by
    intro h
    simp [varB] at h
    simp [cstB, h]
  have hn : (t.2.1.data.toList == x.1.data.toList) = true → hasT H t = false := by
    intro h
    have e : t.2.1.data.toList = x.1.data.toList := by simpa using h
    unfold hasT
    rw [e]
    exact hx
  have hs : (x.1.data.toList == t.2.1.data.toList) = (t.2.1.data.toList == x.1.data.toList) := Bool.beq_comm
  unfold bndT freT isV
  rw [hh, hs]
  revert hc hn
  cases varB t <;> cases cstB t <;> cases hasT H t <;> cases (t.2.1.data.toList == x.1.data.toList) <;> simp
theorem bnd_add (H : List Nm) (x : Nm) (hx : Ck.inS H x = false) : ∀ ts : List Tm, ts.countP (bndT (H ++ [x])) = ts.countP (bndT H) + cnt x ts
  | [] => rfl
  | t :: ts => by
    have ih := bnd_add H x hx ts
    obtain ⟨h1, _, h3⟩ := term_add H x hx t
    unfold cnt at *
    rw [List.countP_cons, List.countP_cons, List.countP_cons, ih]
    cases e1 : isV x t with
    | true =>
      have := (h3 e1).1
      rw [if_pos (h1.2 (.inr e1)), this]
      simp
      omega
    | false =>
      rw [e1] at h1
      cases e2 : bndT H t with
      | true => rw [if_pos (h1.2 (.inl e2))]; simp; omega
      | false =>
        have : ¬ bndT (H ++ [x]) t = true := fun h => by rcases h1.1 h with h | h <;> simp [e2] at h
        rw [if_neg this]; simp
theorem fre_add (H : List Nm) (x : Nm) (hx : Ck.inS H x = false) : ∀ ts : List Tm, ts.countP (freT H) = ts.countP (freT (H ++ [x])) + cnt x ts
  | [] => rfl
  | t :: ts => by
    have ih := fre_add H x hx ts
    obtain ⟨_, h1, h3⟩ := term_add H x hx t
    unfold cnt at *
    rw [List.countP_cons, List.countP_cons, List.countP_cons, ih]
    cases e1 : isV x t with
    | true =>
      have := (h3 e1).2
      rw [if_pos (h1.2 (.inr e1)), this]
      simp
      omega
    | false =>
      rw [e1] at h1
      cases e2 : freT (H ++ [x]) t with
      | true => rw [if_pos (h1.2 (.inl e2))]; simp; omega
      | false =>
        have : ¬ freT H t = true := fun h => by rcases h1.1 h with h | h <;> simp [e2] at h
        rw [if_neg this]; simp
/-- So many more terms of it are bound. -/
def bumpN (c : Nat) (x : Kd) : Kd := ⟨x.kind, x.bound + c, x.free - c⟩
theorem bumpN_zero (x : Kd) : bumpN 0 x = x := by simp [bumpN]
theorem bump_bumpN (c : Nat) (x : Kd) : bump (bumpN c x) = bumpN (c + 1) x := by
  simp [bump, bumpN]
  omega
theorem kdL_add (H : List Nm) (x : Nm) (hx : Ck.inS H x = false) (l : Sy.Lit) : kdL (H ++ [x]) l = bumpN (cnt x l.2.2) (kdL H l) := by
  unfold kdL bumpN
  have h1 := bnd_add H x hx l.2.2
  have h2 := fre_add H x hx l.2.2
  simp only [Kd.mk.injEq, true_and]
  omega
/-- What the places of a variable that is bound make of the literals. -/
def gB (g : Nat → Kd) (P : List Nat) (j : Nat) : Nat → Kd := fun a => bumpN ((P.take j).count a) (g a)
theorem gB_zero (g : Nat → Kd) (P : List Nat) : gB g P 0 = g := by funext a; simp [gB, bumpN_zero]
theorem gB_succ (g : Nat → Kd) (P : List Nat) {j : Nat} (hj : j < P.length) : upd (gB g P j) P[j] (bump (gB g P j P[j])) = gB g P (j + 1) := by
  funext a
  by_cases e : a = P[j]
  · subst e
    rw [upd_s]
    unfold gB
    rw [bump_bumpN, List.take_succ_eq_append_getElem hj, List.count_append]
    simp
  · rw [upd_o _ _ e]
    unfold gB
    rw [List.take_succ_eq_append_getElem hj, List.count_append]
    simp [Ne.symm e]
theorem gB_done {ls : List Sy.Lit} {H : List Nm} {x : Nm} (hx : Ck.inS H x = false) {P : List Nat} (hP : ∀ a, P.count a = cnt x (litAt ls a).2.2) : gB (gOf ls H) P P.length = gOf ls (H ++ [x]) := by
  funext a
  unfold gB gOf
  rw [List.take_length, hP a, kdL_add H x hx]

def num (a : Nat) : Value := .int .i64 (a : Int)
def strs (H : List Nm) : List Value := H.map fun x => .string x.1
/-- The walk in memory: its queue, the order and the variables so far, the map of those that are not bound. -/
structure Wl (B : Nat) (w : World) (qb mb : Nat) (bv pv wv ov vv : Value) (f : Nat → Nat) (n : Nat) (g : Nat → Kd) (t : Nat → Int) (m : Nat) (O : List Nat) (H : List Nm) (N : Nat) (D : DataW Value) (V : Nm → Value) (P : Nm → List Nat) (dm : Nm → Bool) : Prop where
  q : Q w qb bv pv wv (.map (some mb)) ov vv f n g t m
  hp : Hp.Heap ltK (kf g f) n
  o : w.ownsRow 0 3 1 ov O.length (O.map num)
  v : w.ownsRow 0 9 1 vv H.length (strs H)
  mp : w.ownsMap Try.prog 9 heldR mb N D
  hd : ∀ x, Maps.has D (kl x) = dm x
  hv : ∀ x, dm x = true → D.atKey (kl x) (.held (.slice none 0 0)) = .held (V x)
  rw : ∀ x, dm x = true → w.ownsRow 0 3 1 (V x) (P x).length ((P x).map num)
  po : ∀ k, pv.ownBlock = some k → ov.ownBlock ≠ some k
  pr : ∀ k, pv.ownBlock = some k → ∀ x, dm x = true → (V x).ownBlock ≠ some k
  orr : ∀ k, ov.ownBlock = some k → ∀ x, dm x = true → (V x).ownBlock ≠ some k
  rr : ∀ x y, x ≠ y → dm x = true → dm y = true → ∀ k, (V x).ownBlock = some k → (V y).ownBlock ≠ some k
  lq : B ≤ qb
  lm : B ≤ mb
  lp : ∀ k, pv.ownBlock = some k → B ≤ k
  lw : ∀ k, wv.ownBlock = some k → B ≤ k
  l1 : ∀ k, ov.ownBlock = some k → B ≤ k
  l2 : ∀ k, vv.ownBlock = some k → B ≤ k
  l3 : ∀ x, dm x = true → ∀ k, (V x).ownBlock = some k → B ≤ k
  bl : B ≤ w.heap.size
theorem own_ty {w : World} {b e s n : Nat} {v : Value} {xs : List Value} (h : w.ownsRow b e s v n xs) {k : Nat} {cs : Array Value} {T : TypeId} {fr : Nat × Nat} (hk : w.heap[k]? = some (.cells cs T fr)) (hT : T ≠ e) : v.ownBlock ≠ some k := fun hv => by
  obtain ⟨c, hc⟩ := own_blk h hv
  rw [hk] at hc
  simp at hc
  exact hT hc.2.1
theorem own_map {w : World} {b e s n : Nat} {v : Value} {xs : List Value} (h : w.ownsRow b e s v n xs) {P : Program} {K : TypeId} {R : Value → Option (DataW Value × List MemPlace)} {mb N : Nat} {D : DataW Value} (hm : w.ownsMap P K R mb N D) : v.ownBlock ≠ some mb := fun hv => by
  obtain ⟨c, hc⟩ := own_blk h hv
  obtain ⟨es, clock, hb, _⟩ := hm
  rw [hb] at hc
  simp at hc
theorem map_cells {w : World} {P : Program} {K : TypeId} {R : Value → Option (DataW Value × List MemPlace)} {mb N : Nat} {D : DataW Value} (hm : w.ownsMap P K R mb N D) {k : Nat} {cs : Array Value} {T : TypeId} {fr : Nat × Nat} (hk : w.heap[k]? = some (.cells cs T fr)) : k ≠ mb := fun e => by
  subst e
  obtain ⟨es, clock, hb, _⟩ := hm
  rw [hb] at hk
  simp at hk
theorem map_fr {F : Nat → Prop} {W W' : World} {K : TypeId} {R : Value → Option (DataW Value × List MemPlace)} {b n : Nat} {D : DataW Value} (h : W.ownsMap Try.prog K R b n D) (hf : Fr F W W') (hb : ¬ F b) : W'.ownsMap Try.prog K R b n D := by
  obtain ⟨es, clock, h1, h2⟩ := h
  refine ⟨es, clock, ?_, h2⟩
  rw [hf.block b (Array.getElem?_eq_some_iff.1 h1).1 hb]
  exact h1
theorem own_lt {w : World} {b e s n : Nat} {v : Value} {xs : List Value} (h : w.ownsRow b e s v n xs) {k : Nat} (hk : v.ownBlock = some k) : k < w.heap.size := by
  obtain ⟨c, hc⟩ := own_blk h hk
  exact (Array.getElem?_eq_some_iff.1 hc).1

variable {B : Nat} {w w' : World} {qb mb : Nat} {bv pv wv pv' wv' ov vv : Value} {f f' : Nat → Nat} {n n' : Nat} {g g' : Nat → Kd} {t t' : Nat → Int} {m m' : Nat} {O : List Nat} {H : List Nm} {N : Nat} {D : DataW Value} {V : Nm → Value} {P : Nm → List Nat} {dm : Nm → Bool}
/-- What a call on the queue leaves. -/
theorem Wl.step (h : Wl B w qb mb bv pv wv ov vv f n g t m O H N D V P dm) (hq : Q w' qb bv pv' wv' (.map (some mb)) ov vv f' n' g' t' m') (hh : Hp.Heap ltK (kf g' f') n') (hf : Fr (FW pv wv qb) w w') (h1 : Gw w pv pv') (h2 : Gw w wv wv') :
    Wl B w' qb mb bv pv' wv' ov vv f' n' g' t' m' O H N D V P dm ∧ Below B w w' := by
  have hno : ∀ {e s c : Nat} {u : Value} {xs : List Value}, w.ownsRow 0 e s u c xs → e ≠ 76 → e ≠ 54 → (∀ k, pv.ownBlock = some k → u.ownBlock ≠ some k) → ∀ k, FW pv wv qb k → u.ownBlock ≠ some k := by
    intro e s c u xs ho e1 e2 hp k hk hu
    rcases hk with (hk | hk) | hk
    · exact hp k hk hu
    · exact Vl.own_ne h.q.x ho (fun e => e1 e.symm) hk hu
    · subst hk
      exact own_ty ho h.q.b (fun e => e2 e.symm) hu
  have hnv : ∀ k, pv.ownBlock = some k → vv.ownBlock ≠ some k := fun k hk => Vl.own_ne h.q.p h.v (by decide) hk
  refine ⟨⟨hq, hh, own_of_cell h.o hf (hno h.o (by decide) (by decide) h.po), own_of_cell h.v hf (hno h.v (by decide) (by decide) hnv), map_fr h.mp hf (fun hk => ?_), h.hd, h.hv, fun x hx => own_of_cell (h.rw x hx) hf (hno (h.rw x hx) (by decide) (by decide) (fun k hk => h.pr k hk x hx)), fun k hk => ?_, fun k hk x hx => ?_, h.orr, h.rr, h.lq, h.lm, fun k hk => ?_, fun k hk => ?_, h.l1, h.l2, h.l3, Nat.le_trans h.bl hf.size⟩, hf.below (fun k hk => ?_) h.bl⟩
  · rcases hk with (hk | hk) | hk
    · exact own_map h.q.p h.mp hk
    · exact own_map h.q.x h.mp hk
    · exact map_cells h.mp h.q.b hk.symm
  · rcases h1 k hk with h3 | h3
    · exact h.po k h3
    · exact fun e => by have := own_lt h.o e; omega
  · rcases h1 k hk with h3 | h3
    · exact h.pr k h3 x hx
    · exact fun e => by have := own_lt (h.rw x hx) e; omega
  · rcases h1 k hk with h3 | h3
    · exact h.lp k h3
    · exact Nat.le_trans h.bl h3
  · rcases h2 k hk with h3 | h3
    · exact h.lw k h3
    · exact Nat.le_trans h.bl h3
  · rcases hk with (hk | hk) | hk
    · exact h.lp k hk
    · exact h.lw k hk
    · rw [hk]; exact h.lq
end Go.Proofs.Ytjejpjpdfdcnlaa.Qu

/- The walk of comparison. The walk of literal. Rows of literals; the walk of the list of literals. The walk of clause. -/
import Derived.Test.YtcfhpodpkficaaaGreatDoorPart07
namespace Go.Proofs.YtcfhpodpkficaaaGreatDoor.Sy
open Go.RowKit
open Lx (Wd tx cellsW wpList_append_run)
open Vl (Tm Fr)

theorem Tb.kept {w w' : World} {r : Nat} {v : Value} {L : List Wd} {a : Nat} (hT : Tb w) (h : Rd w r v L a) (hf : Fr (fun k => k = r) w w') : Tb w' := by
  have hne : ¬ 0 = r := by
    intro e
    subst e
    have h0 := hT 0 (by decide)
    rw [h.cells.1] at h0
    obtain ⟨ao, cap, rfl, _⟩ := h.shape
    simp [sgs] at h0
  intro i hi
  have hc : w.cell? ⟨0, i, none⟩ = some (sgs[i]'hi) := by rw [hT i hi]; exact List.getElem?_eq_getElem (show i < sgs.length from hi)
  rw [hf.cell hc hne, ← hc, hT i hi]

theorem enters37 : Go.Proofs.Enters Tryz.prog 37 := Go.Proofs.enters_of Tryz.func37 (by kernel_rfl) rfl
theorem enters36 : Go.Proofs.Enters Tryz.prog 36 := Go.Proofs.enters_of Tryz.func36 (by kernel_rfl) rfl
theorem enters45 : Go.Proofs.Enters Tryz.prog 45 := Go.Proofs.enters_of Tryz.func45 (by kernel_rfl) rfl

theorem two_terms (W : World) (s t : Tm) : isTs (W.alloc (.cells #[.int .i64 s.1, .string s.2.1, .int .i64 s.2.2, .int .i64 t.1, .string t.2.1, .int .i64 t.2.2] 53)) [s, t] (.slice (some ⟨W.heap.size, 0, none⟩) 2 2) :=
  ⟨by simp [Vl.cellsT], .inr ⟨W.heap.size, 2, _, rfl, Nat.zero_le _, heap_alloc_new _ _, Nat.le_refl _, by decide, rfl, rfl⟩⟩

set_option maxRecDepth 10000 in
set_option maxHeartbeats 4000000 in
theorem comparison_any {w : World} {r : Nat} {v : Value} {L : List Wd} {a : Nat} (h : Rd w r v L a) (hL : ∀ x ∈ L, OkF x) (hT : Tb w) :
    Calls Tryz.prog 66 #[.pointer (some ⟨r, 0, none⟩)] w fun e w' => Out isLit litz (cmpL (L.drop a)) r v L a w e w' := by
  have HC1 : Hid (∀ o, Calls Tryz.prog 37 #[.pointer (some ⟨r, 0, none⟩)] (w.alloc o) fun e w' => Out isT tvz (termL (L.drop a)) r v L a (w.alloc o) e w') := fun o => term_f (h.below (Lx.below_box w o)) hL
  have HC2 : Hid (∀ {W : World} {b : Nat}, Rd W r v L b → Calls Tryz.prog 37 #[.pointer (some ⟨r, 0, none⟩)] W fun e w' => Out isT tvz (termL (L.drop b)) r v L b W e w') := fun hW => term_f hW hL
  have H := hide h
  have HTb := hide hT
  have hrlt := h.lt
  obtain ⟨R, hR⟩ : ∃ R, Hid (termL (L.drop a) = R) := ⟨_, rfl⟩
  rw [hR.out] at HC1
  clear h hT hL
  go_enter Tryz.func66, Tryz.ntmps66
  go_wp2_with fail
  refine Calls.mono (HC1.out _) ?_
  intro e w1 ho
  cases R with
  | error c =>
    obtain ⟨rfl, hf1⟩ := ho
    have HE : Hid (cmpL (L.drop a) = .error c) := by show _ = _; rw [cmpL, hR.out]
    have hB1 := hide fun o => ((Bx.new w #[.int .i64 0, .string ⟨#[]⟩, .slice none 0 0] 33).fr hf1 (by omega)).below (Lx.below_box w1 o)
    have F1 := hide fun o => (((Gg.refl H.out).alloc (.cells #[.int .i64 0, .string ⟨#[]⟩, .slice none 0 0] 33)).fr.trans hf1 (fun _ _ e => e)).alloc o
    have c0 := fun o => (hB1.out o).three.1.1
    have c1 := fun o => (hB1.out o).three.1.2.1
    have c2 := fun o => (hB1.out o).three.1.2.2
    have f0 := fun o => (hB1.out o).three.2.1
    have f1 := fun o => (hB1.out o).three.2.2.1
    have f2 := fun o => (hB1.out o).three.2.2.2
    clear HC1 HC2 hf1
    simp only [tvz]
    cases c
    all_goals simp only [Bool.false_eq_true, if_false, if_true]
    all_goals go_wp2_with fail
    all_goals refine bodyPost_ret (ret_cell rfl _ _ w.heap.size 33 _ rfl ((((hB1.out _).set 0 _).set 1 _).set 2 _) Tryz.underlying33 sz33) rfl ?_
    all_goals (rw [HE.out]; exact ⟨rfl, fr3 (F1.out _) _ (Nat.le_refl _) _ _ _⟩)
  | ok p =>
    obtain ⟨s, rest⟩ := p
    obtain ⟨y, a1, rfl, hy, hr1, hd1, hlt1, hf1⟩ := ho
    subst hd1
    have hy' : y = .agg #[.int .i64 s.1, .string s.2.1, .int .i64 s.2.2] := hy
    subst hy'
    have hs1 := hf1.size
    simp at hs1
    have G1 := hide (((Gg.refl H.out).alloc (.cells #[.int .i64 0, .string ⟨#[]⟩, .slice none 0 0] 33)).then hr1 hf1)
    have hB1 := hide ((Bx.new w #[.int .i64 0, .string ⟨#[]⟩, .slice none 0 0] 33).fr hf1 (by omega))
    have HT1 := hide (HTb.out.kept H.out G1.out.fr)
    have HN2 := hide fun o => next_any (G1.out.alloc o).rd
    clear HC1 hf1 hr1 hy
    go_wp2_with fail
    refine Calls.mono (HN2.out _) ?_
    rintro e w2 ⟨rfl, hb2⟩
    have hs2 := hb2.size
    simp at hs2
    have G2 := hide ((G1.out.alloc _).below hb2)
    have hB2 := hide ((hB1.out.below (Lx.below_box w1 _)).below hb2)
    have hS2 := hide ((Bx.new w1 #[.int .i64 s.1, .string s.2.1, .int .i64 s.2.2] 53).below hb2)
    have HK := hide (kindOf_any (nextW (L.drop a1)).2.1 w2 ((HT1.out.below (Lx.below_box w1 _)).below hb2))
    obtain ⟨x, hx⟩ : ∃ x, Hid (nextW (L.drop a1) = x) := ⟨_, rfl⟩
    rw [hx.out] at HK ⊢
    simp only [wv]
    have hfw := fldW
    clear HN2 hb2 G1 hB1 HT1
    go_wp2_with fail
    refine Calls.mono HK.out ?_
    rintro e w3 ⟨rfl, hb3⟩
    have G3 := hide (G2.out.below hb3)
    have hB3 := hide (hB2.out.below hb3)
    have hS3 := hide (hS2.out.below hb3)
    clear HK hb3 G2 hB2 hS2
    by_cases hk : kindOf x.2.1 = 0
    · have HE : Hid (cmpL (L.drop a) = .error false) := by show _ = _; rw [cmpL, hR.out]; simp only []; rw [hx.out, if_pos hk]
      obtain ⟨⟨c0, c1, c2⟩, f0, f1, f2⟩ := hB3.out.three
      rw [hk]
      clear HC2 hR hx hk
      go_wp2_with fail
      refine bodyPost_ret (ret_cell rfl _ _ w.heap.size 33 _ rfl (((hB3.out.set 0 _).set 1 _).set 2 _) Tryz.underlying33 sz33) rfl ?_
      rw [HE.out]
      exact ⟨rfl, fr3 G3.out.fr _ (Nat.le_refl _) _ _ _⟩
    · have gk : (((kindOf x.2.1 : Nat) : Int) == 0) = false := by simp; omega
      have hlt2 : a1 < L.length := by
        by_cases hl : a1 < L.length
        · exact hl
        · exfalso
          apply hk
          rw [← hx.out, drop_end L a1 (by omega)]
          rfl
      obtain ⟨K, hK⟩ : ∃ K, Hid (kindOf x.2.1 = K) := ⟨_, rfl⟩
      have HE1 : Hid (cmpL (L.drop a) = (match termL (L.drop (a1 + 1)) with
          | .error e => .error e
          | .ok (b, r) => .ok (((K : Nat), ⟨#[]⟩, [s, b]), r))) := by show _ = _; rw [cmpL, hR.out]; simp only []; rw [hx.out, if_neg hk, drop_tail, hK.out]; cases termL (L.drop (a1 + 1)) <;> rfl
      obtain ⟨r0, r1, r2⟩ := G3.out.rd.cells
      have G4 := hide (G3.out.step hlt2)
      have hB4 := hide (hB3.out.fr (Vl.Fr.one w3 r 1 (.int .i64 (wrap64 ((a1 : Int) + 1)))) (by omega))
      have hS4 := hide (hS3.out.fr (Vl.Fr.one w3 r 1 (.int .i64 (wrap64 ((a1 : Int) + 1)))) (by omega))
      have HC4 := hide (HC2.out G4.out.rd)
      obtain ⟨R2, hR2⟩ : ∃ R2, Hid (termL (L.drop (a1 + 1)) = R2) := ⟨_, rfl⟩
      rw [hR2.out] at HC4 HE1
      rw [hK.out] at gk ⊢
      clear HC2 hR hx hk hK G3 hB3 hS3
      go_wp2_with fail
      refine Calls.mono HC4.out ?_
      intro e w5 ho
      cases R2 with
      | error c =>
        obtain ⟨rfl, hf5⟩ := ho
        have hB5 := hide fun o => (hB4.out.fr hf5 (by omega)).below (Lx.below_box w5 o)
        have F5 := hide fun o => (G4.out.fr.trans hf5 (fun _ _ e => e)).alloc o
        have c0 := fun o => (hB5.out o).three.1.1
        have c1 := fun o => (hB5.out o).three.1.2.1
        have c2 := fun o => (hB5.out o).three.1.2.2
        have f0 := fun o => (hB5.out o).three.2.1
        have f1 := fun o => (hB5.out o).three.2.2.1
        have f2 := fun o => (hB5.out o).three.2.2.2
        clear HC4 hf5 r0 r1 r2
        simp only [tvz]
        cases c
        all_goals simp only [Bool.false_eq_true, if_false, if_true]
        all_goals go_wp2_with fail
        all_goals refine bodyPost_ret (ret_cell rfl _ _ w.heap.size 33 _ rfl ((((hB5.out _).set 0 _).set 1 _).set 2 _) Tryz.underlying33 sz33) rfl ?_
        all_goals (rw [HE1.out]; exact ⟨rfl, fr3 (F5.out _) _ (Nat.le_refl _) _ _ _⟩)
      | ok p =>
        obtain ⟨t, rest⟩ := p
        obtain ⟨y, a5, rfl, hy, hr5, hd5, hlt5, hf5⟩ := ho
        subst hd5
        have hy' : y = .agg #[.int .i64 t.1, .string t.2.1, .int .i64 t.2.2] := hy
        subst hy'
        have G5 := hide (G4.out.then hr5 hf5)
        have hB5 := hide (hB4.out.fr hf5 (by omega))
        have hS5 := hide (hS4.out.fr hf5 (by omega))
        have hB6 := hide fun o p => (hB5.out.below (Lx.below_box w5 o)).below (Lx.below_box _ p)
        have G6 := hide fun o p => (G5.out.alloc o).alloc p
        have s0 := fun o => (hS5.out.below (Lx.below_box w5 o)).three.1.1
        have s1 := fun o => (hS5.out.below (Lx.below_box w5 o)).three.1.2.1
        have s2 := fun o => (hS5.out.below (Lx.below_box w5 o)).three.1.2.2
        have c0 := fun o p => (hB6.out o p).three.1.1
        have c1 := fun o p => (hB6.out o p).three.1.2.1
        have c2 := fun o p => (hB6.out o p).three.1.2.2
        have f0 := fun o p => (hB6.out o p).three.2.1
        have f1 := fun o p => (hB6.out o p).three.2.2.1
        have f2 := fun o p => (hB6.out o p).three.2.2.2
        clear HC4 hf5 hr5 r0 r1 r2 hy
        go_wp2_with fail
        refine bodyPost_ret (ret_cell rfl _ _ w.heap.size 33 _ rfl ((((hB6.out _ _).set 0 _).set 1 _).set 2 _) Tryz.underlying33 sz33) rfl ?_
        have q1 := (G6.out (.cells #[.int .i64 t.1, .string t.2.1, .int .i64 t.2.2] 53) (.cells #[.int .i64 s.1, .string s.2.1, .int .i64 s.2.2, .int .i64 t.1, .string t.2.1, .int .i64 t.2.2] 53)).put3 H.out w.heap.size (Nat.le_refl _) (.int .i64 (K : Int)) (.string ⟨#[]⟩) (.slice (some ⟨w5.heap.size + 1, 0, none⟩) 2 2)
        have q2 := isTs_put3 (two_terms (w5.alloc (.cells #[.int .i64 t.1, .string t.2.1, .int .i64 t.2.2] 53)) s t) (hB6.out _ _) (by decide) (.int .i64 (K : Int)) (.string ⟨#[]⟩) (.slice (some ⟨w5.heap.size + 1, 0, none⟩) 2 2)
        rw [show (w5.alloc (.cells #[.int .i64 t.1, .string t.2.1, .int .i64 t.2.2] 53)).heap.size = w5.heap.size + 1 by simp] at q2
        rw [HE1.out]
        exact ⟨_, a5, rfl, ⟨_, rfl, q2⟩, q1.rd, rfl, by omega, q1.fr⟩
end Go.Proofs.YtcfhpodpkficaaaGreatDoor.Sy
namespace Go.Proofs.YtcfhpodpkficaaaGreatDoor.Sy
open Go.RowKit
open Lx (Wd tx cellsW wpList_append_run)
open Vl (Tm Fr)

theorem isTs_below {w w' : World} {ts : List Tm} {y : Value} (h : isTs w ts y) (hb : Below w.heap.size w w') : isTs w' ts y := Lx.own_below h hb
def notR : Re Lit → Re Lit
  | .error e => .error e
  | .ok (l, r) => .ok ((2, l.2), r)
theorem mk_func (fn : Fn) (first cap : Array Value) (w : World) : (Instr.makeFunc fn first cap).run Tryz.prog w = .ok (.func fn first cap) w := rfl

set_option maxRecDepth 10000 in
set_option maxHeartbeats 4000000 in
theorem literal_any {w : World} {r : Nat} {v : Value} {L : List Wd} {a : Nat} (h : Rd w r v L a) (hL : ∀ x ∈ L, OkF x) (hT : Tb w) :
    Calls Tryz.prog 45 #[.pointer (some ⟨r, 0, none⟩)] w fun e w' => Out isLit litz (litL (L.drop a)) r v L a w e w' := by
  have HTk := hide fun o => take_any [33] (by decide) (h.below (Lx.below_box w o))
  have HA : Hid (∀ {W : World} {b : Nat}, Rd W r v L b → Calls Tryz.prog 42 #[.pointer (some ⟨r, 0, none⟩), .func (.func 37) #[.pointer (some ⟨r, 0, none⟩)] #[]] W fun e w' => Out isLit litz (atomL termW (L.drop b)) r v L b W e w') := fun hW => atom_any 37 termW term_f enters37 hW hL
  have HC : Hid (∀ {W : World} {b : Nat}, Rd W r v L b → Tb W → Calls Tryz.prog 66 #[.pointer (some ⟨r, 0, none⟩)] W fun e w' => Out isLit litz (cmpL (L.drop b)) r v L b W e w') := fun hW hTW => comparison_any hW hL hTW
  have H := hide h
  have HTb := hide hT
  have hrlt := h.lt
  have hmf := mk_func
  clear h hT hL
  cases ht : takeB [33] (L.drop a)
  · go_enter Tryz.func45, Tryz.ntmps45
    go_wp2_with fail
    refine Calls.mono (HTk.out _) ?_
    rintro e w1 ⟨rfl, a1, hr1, hd1, ha1, hf1⟩
    rw [ht]
    have hd1' : L.drop a1 = L.drop a := by rw [hd1, takeR, if_neg (by rw [ht]; decide)]
    have hs1 := hf1.size
    simp at hs1
    have G1 := hide (((Gg.refl H.out).alloc (.cells #[.int .i64 0, .string ⟨#[]⟩, .slice none 0 0] 33)).then hr1 hf1)
    have hB1 := hide ((Bx.new w #[.int .i64 0, .string ⟨#[]⟩, .slice none 0 0] 33).fr hf1 (by omega))
    have HT1 := hide (HTb.out.kept H.out G1.out.fr)
    have HN := hide (next_any G1.out.rd)
    rw [hd1'] at HN
    have hdr : L.drop (a1 + 1) = (L.drop a).tail := by rw [← hd1', drop_tail]
    have hle1 := hr1.le
    clear HTk hf1 hr1 hd1
    by_cases hk : (nextW (L.drop a)).1 = 1
    · have hlt1 : a1 < L.length := by
        rw [← hd1'] at hk
        exact lt_of_next (by decide) hk
      by_cases hq : kindOf (nextW (L.drop a).tail).2.1 = 0
      · have HE : Hid (litL (L.drop a) = atomL termW (L.drop a1)) := by show _ = _; rw [litL, if_neg (by rw [ht]; decide), if_pos ⟨hk, hq⟩, hd1']
        have HQ : Hid (∀ W, Gg w r v L a1 W → Calls Tryz.prog 65 #[.pointer (some ⟨r, 0, none⟩)] W fun e w' => e = .returned (.bool false) ∧ Below W.heap.size W w') := fun W hW => by
          have := comparedNext_any hW.rd hlt1 (HTb.out.kept H.out hW.fr)
          rw [hdr, hq] at this
          exact this
        obtain ⟨x, hx⟩ : ∃ x, nextW (L.drop a) = x := ⟨_, rfl⟩
        rw [hx] at HN hk
        simp only [wv, hk] at HN
        have hfk := fldK
        clear hx hk hq hdr hd1' ht HC
        go_wp2_with fail
        refine Calls.mono HN.out ?_
        rintro e w2 ⟨rfl, hb2⟩
        have G2 := hide (G1.out.below hb2)
        have hB2 := hide (hB1.out.below hb2)
        clear HN hb2 G1 hB1
        go_wp2_with fail
        refine Calls.mono (HQ.out _ G2.out) ?_
        rintro e w3 ⟨rfl, hb3⟩
        have G3 := hide (G2.out.below hb3)
        have hB3 := hide (hB2.out.below hb3)
        have HA3 := hide (HA.out G3.out.rd)
        clear HQ hb3 G2 hB2 HA
        obtain ⟨R, hR⟩ : ∃ R, atomL termW (L.drop a1) = R := ⟨_, rfl⟩
        rw [hR] at HE HA3
        clear hR
        go_wp2_with fail
        refine Calls.mono HA3.out ?_
        intro e w4 ho
        cases R with
        | error c =>
          obtain ⟨rfl, hf4⟩ := ho
          have hB4 := hide (hB3.out.fr hf4 (by omega))
          have F4 := hide (G3.out.fr.trans hf4 (fun _ _ e => e))
          obtain ⟨⟨c0, c1, c2⟩, f0, f1, f2⟩ := hB4.out.three
          clear HA3 hf4
          simp only [litz]
          cases c
          all_goals simp only [Bool.false_eq_true, if_false, if_true]
          all_goals go_wp2_with fail
          all_goals refine bodyPost_ret (ret_cell rfl _ _ w.heap.size 33 _ rfl (((hB4.out.set 0 _).set 1 _).set 2 _) Tryz.underlying33 sz33) rfl ?_
          all_goals (rw [HE.out]; exact ⟨rfl, fr3 F4.out _ (Nat.le_refl _) _ _ _⟩)
        | ok p =>
          obtain ⟨l, rest⟩ := p
          obtain ⟨y, a4, rfl, ⟨va, rfl, hva⟩, hr4, hd4, hlt4, hf4⟩ := ho
          obtain ⟨_, ao, cap, rfl⟩ := own_len hva
          have G4 := hide (G3.out.then hr4 hf4)
          have hB4 := hide (hB3.out.fr hf4 (by omega))
          have HV := hide hva
          have HD4 := hide hd4
          obtain ⟨⟨c0, c1, c2⟩, f0, f1, f2⟩ := hB4.out.three
          clear HA3 hf4 hr4 hd4 hva
          go_wp2_with fail
          refine bodyPost_ret (ret_cell rfl _ _ w.heap.size 33 _ rfl (((hB4.out.set 0 _).set 1 _).set 2 _) Tryz.underlying33 sz33) rfl ?_
          have q1 := G4.out.put3 H.out w.heap.size (Nat.le_refl _) (.int .i64 l.1) (.string l.2.1) (.slice ao l.2.2.length cap)
          rw [HE.out]
          exact ⟨_, a4, rfl, ⟨_, rfl, isTs_put3 HV.out hB4.out (by decide) _ _ _⟩, q1.rd, HD4.out, by omega, q1.fr⟩
      · have HE : Hid (litL (L.drop a) = cmpL (L.drop a1)) := by show _ = _; rw [litL, if_neg (by rw [ht]; decide), if_neg (fun h => hq h.2), hd1']
        have HQ : Hid (∀ W, Gg w r v L a1 W → Calls Tryz.prog 65 #[.pointer (some ⟨r, 0, none⟩)] W fun e w' => e = .returned (.bool true) ∧ Below W.heap.size W w') := fun W hW => by
          have := comparedNext_any hW.rd hlt1 (HTb.out.kept H.out hW.fr)
          rw [hdr, show (!decide (kindOf (nextW (L.drop a).tail).2.1 = 0)) = true by simpa using hq] at this
          exact this
        obtain ⟨x, hx⟩ : ∃ x, nextW (L.drop a) = x := ⟨_, rfl⟩
        rw [hx] at HN hk
        simp only [wv, hk] at HN
        have hfk := fldK
        clear hx hk hq hdr hd1' ht HA
        go_wp2_with fail
        refine Calls.mono HN.out ?_
        rintro e w2 ⟨rfl, hb2⟩
        have G2 := hide (G1.out.below hb2)
        have hB2 := hide (hB1.out.below hb2)
        clear HN hb2 G1 hB1
        go_wp2_with fail
        refine Calls.mono (HQ.out _ G2.out) ?_
        rintro e w3 ⟨rfl, hb3⟩
        have G3 := hide (G2.out.below hb3)
        have hB3 := hide (hB2.out.below hb3)
        have HA3 := hide (HC.out G3.out.rd (HTb.out.kept H.out G3.out.fr))
        clear HQ hb3 G2 hB2 HC
        obtain ⟨R, hR⟩ : ∃ R, cmpL (L.drop a1) = R := ⟨_, rfl⟩
        rw [hR] at HE HA3
        clear hR
        go_wp2_with fail
        refine Calls.mono HA3.out ?_
        intro e w4 ho
        cases R with
        | error c =>
          obtain ⟨rfl, hf4⟩ := ho
          have hB4 := hide (hB3.out.fr hf4 (by omega))
          have F4 := hide (G3.out.fr.trans hf4 (fun _ _ e => e))
          obtain ⟨⟨c0, c1, c2⟩, f0, f1, f2⟩ := hB4.out.three
          clear HA3 hf4
          simp only [litz]
          cases c
          all_goals simp only [Bool.false_eq_true, if_false, if_true]
          all_goals go_wp2_with fail
          all_goals refine bodyPost_ret (ret_cell rfl _ _ w.heap.size 33 _ rfl (((hB4.out.set 0 _).set 1 _).set 2 _) Tryz.underlying33 sz33) rfl ?_
          all_goals (rw [HE.out]; exact ⟨rfl, fr3 F4.out _ (Nat.le_refl _) _ _ _⟩)
        | ok p =>
          obtain ⟨l, rest⟩ := p
          obtain ⟨y, a4, rfl, ⟨va, rfl, hva⟩, hr4, hd4, hlt4, hf4⟩ := ho
          obtain ⟨_, ao, cap, rfl⟩ := own_len hva
          have G4 := hide (G3.out.then hr4 hf4)
          have hB4 := hide (hB3.out.fr hf4 (by omega))
          have HV := hide hva
          have HD4 := hide hd4
          obtain ⟨⟨c0, c1, c2⟩, f0, f1, f2⟩ := hB4.out.three
          clear HA3 hf4 hr4 hd4 hva
          go_wp2_with fail
          refine bodyPost_ret (ret_cell rfl _ _ w.heap.size 33 _ rfl (((hB4.out.set 0 _).set 1 _).set 2 _) Tryz.underlying33 sz33) rfl ?_
          have q1 := G4.out.put3 H.out w.heap.size (Nat.le_refl _) (.int .i64 l.1) (.string l.2.1) (.slice ao l.2.2.length cap)
          rw [HE.out]
          exact ⟨_, a4, rfl, ⟨_, rfl, isTs_put3 HV.out hB4.out (by decide) _ _ _⟩, q1.rd, HD4.out, by omega, q1.fr⟩
    · have HE : Hid (litL (L.drop a) = cmpL (L.drop a1)) := by show _ = _; rw [litL, if_neg (by rw [ht]; decide), if_neg (fun h => hk h.1), hd1']
      obtain ⟨x, hx⟩ : ∃ x, nextW (L.drop a) = x := ⟨_, rfl⟩
      rw [hx] at HN hk
      have gk : ((x.1 : Int) == 1) = false := by simp; omega
      simp only [wv] at HN
      have hfk := fldK
      clear hx hk hdr hd1' ht HA
      go_wp2_with fail
      refine Calls.mono HN.out ?_
      rintro e w3 ⟨rfl, hb2⟩
      have G3 := hide (G1.out.below hb2)
      have hB3 := hide (hB1.out.below hb2)
      have HA3 := hide (HC.out G3.out.rd (HTb.out.kept H.out G3.out.fr))
      clear HN hb2 G1 hB1 HC
      obtain ⟨R, hR⟩ : ∃ R, cmpL (L.drop a1) = R := ⟨_, rfl⟩
      rw [hR] at HE HA3
      clear hR
      go_wp2_with fail
      refine Calls.mono HA3.out ?_
      intro e w4 ho
      cases R with
      | error c =>
        obtain ⟨rfl, hf4⟩ := ho
        have hB4 := hide (hB3.out.fr hf4 (by omega))
        have F4 := hide (G3.out.fr.trans hf4 (fun _ _ e => e))
        obtain ⟨⟨c0, c1, c2⟩, f0, f1, f2⟩ := hB4.out.three
        clear HA3 hf4
        simp only [litz]
        cases c
        all_goals simp only [Bool.false_eq_true, if_false, if_true]
        all_goals go_wp2_with fail
        all_goals refine bodyPost_ret (ret_cell rfl _ _ w.heap.size 33 _ rfl (((hB4.out.set 0 _).set 1 _).set 2 _) Tryz.underlying33 sz33) rfl ?_
        all_goals (rw [HE.out]; exact ⟨rfl, fr3 F4.out _ (Nat.le_refl _) _ _ _⟩)
      | ok p =>
        obtain ⟨l, rest⟩ := p
        obtain ⟨y, a4, rfl, ⟨va, rfl, hva⟩, hr4, hd4, hlt4, hf4⟩ := ho
        obtain ⟨_, ao, cap, rfl⟩ := own_len hva
        have G4 := hide (G3.out.then hr4 hf4)
        have hB4 := hide (hB3.out.fr hf4 (by omega))
        have HV := hide hva
        have HD4 := hide hd4
        obtain ⟨⟨c0, c1, c2⟩, f0, f1, f2⟩ := hB4.out.three
        clear HA3 hf4 hr4 hd4 hva
        go_wp2_with fail
        refine bodyPost_ret (ret_cell rfl _ _ w.heap.size 33 _ rfl (((hB4.out.set 0 _).set 1 _).set 2 _) Tryz.underlying33 sz33) rfl ?_
        have q1 := G4.out.put3 H.out w.heap.size (Nat.le_refl _) (.int .i64 l.1) (.string l.2.1) (.slice ao l.2.2.length cap)
        rw [HE.out]
        exact ⟨_, a4, rfl, ⟨_, rfl, isTs_put3 HV.out hB4.out (by decide) _ _ _⟩, q1.rd, HD4.out, by omega, q1.fr⟩
  · go_enter Tryz.func45, Tryz.ntmps45
    go_wp2_with fail
    refine Calls.mono (HTk.out _) ?_
    rintro e w1 ⟨rfl, a1, hr1, hd1, ha1, hf1⟩
    rw [ht]
    have hd1' : L.drop a1 = (L.drop a).tail := by rw [hd1, takeR, if_pos ht]
    have hs1 := hf1.size
    simp at hs1
    have G1 := hide (((Gg.refl H.out).alloc (.cells #[.int .i64 0, .string ⟨#[]⟩, .slice none 0 0] 33)).then hr1 hf1)
    have hB1 := hide ((Bx.new w #[.int .i64 0, .string ⟨#[]⟩, .slice none 0 0] 33).fr hf1 (by omega))
    have HA1 := hide (HA.out G1.out.rd)
    obtain ⟨R, hR⟩ : ∃ R, atomL termW (L.drop a1) = R := ⟨_, rfl⟩
    have HE : Hid (litL (L.drop a) = notR R) := by
      show _ = _
      rw [litL, if_pos ht, ← hd1', ← hR]
      cases atomL termW (L.drop a1) <;> rfl
    rw [hR] at HA1
    clear HTk hf1 hr1 hd1 hd1' ht hR HA HC
    go_wp2_with fail
    refine Calls.mono HA1.out ?_
    intro e w4 ho
    cases R with
    | error c =>
      obtain ⟨rfl, hf4⟩ := ho
      have hB4 := hide fun o => (hB1.out.fr hf4 (by omega)).below (Lx.below_box w4 o)
      have F4 := hide fun o => (G1.out.fr.trans hf4 (fun _ _ e => e)).alloc o
      have c0 := fun o => (hB4.out o).three.1.1
      have c1 := fun o => (hB4.out o).three.1.2.1
      have c2 := fun o => (hB4.out o).three.1.2.2
      have f0 := fun o => (hB4.out o).three.2.1
      have f1 := fun o => (hB4.out o).three.2.2.1
      have f2 := fun o => (hB4.out o).three.2.2.2
      clear HA1 hf4
      simp only [litz]
      cases c
      all_goals simp only [Bool.false_eq_true, if_false, if_true]
      all_goals go_wp2_with fail
      all_goals refine bodyPost_ret (ret_cell rfl _ _ w.heap.size 33 _ rfl ((((hB4.out _).set 0 _).set 1 _).set 2 _) Tryz.underlying33 sz33) rfl ?_
      all_goals (rw [HE.out]; exact ⟨rfl, fr3 (F4.out _) _ (Nat.le_refl _) _ _ _⟩)
    | ok p =>
      obtain ⟨l, rest⟩ := p
      obtain ⟨y, a4, rfl, ⟨va, rfl, hva⟩, hr4, hd4, hlt4, hf4⟩ := ho
      obtain ⟨_, ao, cap, rfl⟩ := own_len hva
      have G4 := hide fun o => (G1.out.then hr4 hf4).alloc o
      have hB4 := hide fun o => (hB1.out.fr hf4 (by omega)).below (Lx.below_box w4 o)
      have HV := hide fun o => isTs_below hva (Lx.below_box w4 o)
      have HD4 := hide hd4
      have c0 := fun o => (hB4.out o).three.1.1
      have c1 := fun o => (hB4.out o).three.1.2.1
      have c2 := fun o => (hB4.out o).three.1.2.2
      have f0 := fun o => (hB4.out o).three.2.1
      have f1 := fun o => (hB4.out o).three.2.2.1
      have f2 := fun o => (hB4.out o).three.2.2.2
      clear HA1 hf4 hr4 hd4 hva
      go_wp2_with fail
      refine bodyPost_ret (ret_cell rfl _ _ w.heap.size 33 _ rfl ((((hB4.out _).set 0 _).set 1 _).set 2 _) Tryz.underlying33 sz33) rfl ?_
      have q1 := (G4.out (.cells #[.int .i64 2, .string l.2.1, .slice ao l.2.2.length cap] 33)).put3 H.out w.heap.size (Nat.le_refl _) (.int .i64 2) (.string l.2.1) (.slice ao l.2.2.length cap)
      rw [HE.out]
      exact ⟨_, a4, rfl, ⟨_, rfl, isTs_put3 (HV.out _) (hB4.out _) (by decide) _ _ _⟩, q1.rd, HD4.out, by omega, q1.fr⟩
end Go.Proofs.YtcfhpodpkficaaaGreatDoor.Sy
namespace Go.Proofs.YtcfhpodpkficaaaGreatDoor.Sy
open Go.RowKit
open Lx (Wd tx cellsW wpList_append_run)
open Vl (Tm Fr)

def cellsLz (zs : List (Lit × Value)) : List Value := zs.flatMap fun z => [.int .i64 z.1.1, .string z.1.2.1, z.2]
theorem cellsLz_snoc (zs : List (Lit × Value)) (z : Lit × Value) : cellsLz (zs ++ [z]) = cellsLz zs ++ [.int .i64 z.1.1, .string z.1.2.1, z.2] := by simp [cellsLz]
/-- A row of literals. -/
def isLs (w : World) (ls : List Lit) (y : Value) : Prop := ∃ zs : List (Lit × Value), zs.map (·.1) = ls ∧ w.ownsRow 0 33 3 y zs.length (cellsLz zs) ∧ ∀ z ∈ zs, isTs w z.1.2.2 z.2
theorem isLs_nil (w : World) : isLs w [] (.slice none 0 0) := ⟨[], rfl, ⟨by simp [cellsLz], .inl ⟨rfl, rfl⟩⟩, by simp⟩
theorem isLs_kept {w w' : World} {r : Nat} {v : Value} {L : List Wd} {a : Nat} (h : Rd w r v L a) (hf : Fr (fun k => k = r) w w') {ls : List Lit} {y : Value} (ht : isLs w ls y) : isLs w' ls y := by
  obtain ⟨zs, h1, h2, h3⟩ := ht
  exact ⟨zs, h1, h.kept hf h2 (by decide), fun z hz => isTs_kept h hf (h3 z hz)⟩
theorem isLs_below {w w' : World} {ls : List Lit} {y : Value} (ht : isLs w ls y) (hb : Below w.heap.size w w') : isLs w' ls y := by
  obtain ⟨zs, h1, h2, h3⟩ := ht
  exact ⟨zs, h1, Lx.own_below h2 hb, fun z hz => isTs_below (h3 z hz) hb⟩
theorem isTs_grow {W W' : World} {ts : List Tm} {y : Value} (h : isTs W ts y) {b e s n : Nat} {u : Value} {xs : List Value} (ho : W.ownsRow b e s u n xs) (he : e ≠ 53) (hf : Fr (fun k => u.ownBlock = some k) W W') : isTs W' ts y :=
  Vl.own_kept h hf fun _ hk hk2 => Vl.own_ne ho h he hk2 hk
theorem isTs_one {w : World} {ts : List Tm} {y : Value} (h : isTs w ts y) : y.oneCell' = true := Vl.own_one h

set_option maxRecDepth 10000 in
set_option maxHeartbeats 2000000 in
theorem lits_any {w : World} {r : Nat} {v : Value} {L : List Wd} {a : Nat} (h : Rd w r v L a) (hL : ∀ x ∈ L, OkF x) (hT : Tb w) (n : Nat) (hn : n ≤ 1000) :
    Calls Tryz.prog 44 #[.pointer (some ⟨r, 0, none⟩), .int .i64 (n : Int), .func (.func 45) #[.pointer (some ⟨r, 0, none⟩)] #[]] w fun e w' => Out isLs (.slice none 0 0) (listL litL n (L.drop a)) r v L a w e w' := by
  have he' : ∀ (args : Array Value) (w : World), (callFunc 45 args).run Tryz.prog w = .ok (.enter 45 args) w := enters45
  have HF : Hid (∀ {W : World} {b : Nat}, Gg w r v L b W → Calls Tryz.prog 45 #[.pointer (some ⟨r, 0, none⟩)] W fun e w' => Out isLit litz (litL (L.drop b)) r v L b W e w') := fun hW => literal_any hW.rd hL (hT.kept h hW.fr)
  have H := hide h
  clear h hL hT
  go_enter Tryz.func44, Tryz.ntmps44
  go_wp2_with fail
  go_loopw [8] (fun y wr => ∃ (zs : List (Lit × Value)) (b : Nat), zs.length ≤ n ∧ Hid (wr.ownsRow w.heap.size 33 3 y zs.length (cellsLz zs)) ∧ Hid (∀ z ∈ zs, isTs wr z.1.2.2 z.2) ∧ Hid (Gg w r v L b wr) ∧ Hid (listL litL n (L.drop a) = joinR (zs.map (·.1)) (listL litL (n - zs.length) (L.drop b))) ∧ a ≤ b) (fun y _ => n + 1 - lenOf y)
  case atStart => exact ⟨[], a, Nat.zero_le _, ⟨by simp [cellsLz], .inl ⟨rfl, rfl⟩⟩, fun z hz => absurd hz (by simp), Gg.refl H.out, (joinR_nil _).symm, Nat.le_refl _⟩
  case round =>
    obtain ⟨zs, b, hacc, HO, HZ, HG, HE, hab⟩ := hrel
    have HI := hide (HF.out HG.out)
    obtain ⟨R, hR⟩ : ∃ R, Hid (litL (L.drop b) = R) := ⟨_, rfl⟩
    rw [hR.out] at HI
    obtain ⟨hlen, ao, cap, rfl⟩ := own_len HO.out
    go_wp2_with (go_at_fn 45; refine Calls.mono HI.out ?_)
    intro e w1 ho
    cases R with
    | error c =>
      obtain ⟨rfl, hf⟩ := ho
      rw [listL_err hR.out] at HE
      have F1 : Fr (fun k => k = r) w w1 := HG.out.fr.trans hf (fun _ _ e => e)
      have HF1 : Hid (∀ o, Fr (fun k => k = r) w (w1.alloc o)) := fun o => F1.alloc o
      clear hf F1 HI HO HG HZ
      simp only [litz]
      cases c
      all_goals simp only [Bool.false_eq_true, if_false, if_true]
      all_goals go_wp2_with fail
      all_goals go_ret2
      all_goals (rw [HE.out]; exact ⟨rfl, HF1.out _⟩)
    | ok p =>
      obtain ⟨t, rest⟩ := p
      obtain ⟨y, b', rfl, ⟨va, rfl, hva⟩, hr, hd, hbb, hf⟩ := ho
      subst hd
      obtain ⟨_, aoa, capa, rfl⟩ := own_len hva
      have G1 : Hid (Gg w r v L b' w1) := HG.out.then hr hf
      have O1 : Hid (w1.ownsRow w.heap.size 33 3 (.slice ao zs.length cap) zs.length (cellsLz zs)) := HG.out.rd.kept hf HO.out (by decide)
      have Z1 : Hid (∀ z ∈ zs ++ [(t, Value.slice aoa t.2.2.length capa)], isTs w1 z.1.2.2 z.2) := fun z hz => by
        rcases List.mem_append.1 hz with hz | hz
        · exact isTs_kept HG.out.rd hf (HZ.out z hz)
        · obtain rfl : z = (t, Value.slice aoa t.2.2.length capa) := by simpa using hz
          exact hva
      clear hf hr HG HO HI HZ hva
      by_cases hfull : zs.length = n
      · have gf : ((zs.length : Int) == (n : Int)) = true := by simp; omega
        have HE' : Hid (listL litL n (L.drop a) = .error true) := by
          rw [HE.out, hfull, Nat.sub_self, listL_zero hR.out]
          rfl
        have HF1 : Hid (∀ o, Fr (fun k => k = r) w (w1.alloc o)) := fun o => G1.out.fr.alloc o
        clear HE hR O1 G1 hfull Z1
        go_wp2_with fail
        go_ret2
        rw [HE'.out]
        exact ⟨rfl, HF1.out _⟩
      · have gf : ((zs.length : Int) == (n : Int)) = false := by simp; omega
        have hsz := G1.out.fr.size
        obtain ⟨g3, cap3, w3, hap, HO3, HF3⟩ := push_row 34 33 3 48 _ Tryz.underlying34 Tryz.info33 rfl (by decide) (by decide) (O1.out.alloc (.cells #[.int .i64 t.1, .string t.2.1, .slice aoa t.2.2.length capa] 33)) [.int .i64 t.1, .string t.2.1, .slice aoa t.2.2.length capa] rfl (by simp [Value.oneCell']) (by omega) (by simp; omega)
        have hap' : ∀ ty, (Builtin.append_ #[34, 34] ty #[.slice ao zs.length cap, .slice (some ⟨w1.heap.size + 1, 0, none⟩) 1 1]).run Tryz.prog ((w1.alloc (.cells #[.int .i64 t.1, .string t.2.1, .slice aoa t.2.2.length capa] 33)).alloc (.cells #[.int .i64 t.1, .string t.2.1, .slice aoa t.2.2.length capa] 33)) = .ok (.slice (some ⟨g3, 0, none⟩) (zs.length + 1) cap3) w3 := fun ty => by
          have := hap ty
          simpa using this
        have G3 : Hid (Gg w r v L b' w3) := (G1.out.alloc _).grow H.out HF3.out fun k hk => (O1.out.lt k hk).1
        have Z3 : Hid (∀ z ∈ zs ++ [(t, Value.slice aoa t.2.2.length capa)], isTs w3 z.1.2.2 z.2) := fun z hz => isTs_grow (isTs_below (Z1.out z hz) (Lx.below_box w1 _)) (O1.out.alloc (.cells #[.int .i64 t.1, .string t.2.1, .slice aoa t.2.2.length capa] 33)) (by decide) HF3.out
        have hrow : Hid (w3.ownsRow w.heap.size 33 3 (.slice (some ⟨g3, 0, none⟩) (zs.length + 1) cap3) (zs.length + 1) (cellsLz (zs ++ [(t, Value.slice aoa t.2.2.length capa)]))) := by
          rw [cellsLz_snoc]
          exact HO3.out
        have HT := hide (take_any [44] (by decide) G3.out.rd)
        have hR' := hR.out
        cases hc : takeB [44] (L.drop b')
        · rw [hc] at HT
          have HE' : Hid (listL litL n (L.drop a) = .ok ((zs ++ [(t, Value.slice aoa t.2.2.length capa)]).map (·.1), L.drop b')) := by
            obtain ⟨m, hm⟩ : ∃ m, n - zs.length = m + 1 := ⟨n - zs.length - 1, by omega⟩
            rw [HE.out, hm, listL_last hR' hc, List.map_append]
            rfl
          clear HE hR hR' O1 G1 hap HO3 HF3 HF Z1
          go_wp2_with (at_builtin; refine wpList_append_run _ rfl (.tmp 23) (.tmp 25) 34 34 rfl _ _ rfl rfl (hap' _) ?_)
          refine Calls.mono HT.out ?_
          rintro e w4 ⟨rfl, b4, hr4, hd4, hb4, hf4⟩
          have O4 := hide (Vl.own_zero (G3.out.rd.kept hf4 hrow.out (by decide)))
          have Z4 : Hid (∀ z ∈ zs ++ [(t, Value.slice aoa t.2.2.length capa)], isTs w4 z.1.2.2 z.2) := fun z hz => isTs_kept G3.out.rd hf4 (Z3.out z hz)
          have HG4 := hide (G3.out.then hr4 hf4)
          have HD4 : Hid (L.drop b4 = L.drop b') := by rw [hd4, takeR, if_neg (by rw [hc]; decide)]; rfl
          clear hd4 hr4 hf4 HT hrow G3 hap' Z3
          go_wp2_with fail
          go_ret2
          rw [HE'.out]
          exact ⟨_, b4, rfl, ⟨_, rfl, by rw [List.length_append]; exact O4.out, Z4.out⟩, HG4.out.rd, HD4.out, by omega, HG4.out.fr⟩
        · rw [hc] at HT
          have HE' : Hid (listL litL n (L.drop a) = joinR ((zs ++ [(t, Value.slice aoa t.2.2.length capa)]).map (·.1)) (listL litL (n - (zs ++ [(t, Value.slice aoa t.2.2.length capa)]).length) (takeR [44] (L.drop b')))) := by
            obtain ⟨m, hm⟩ : ∃ m, n - zs.length = m + 1 := ⟨n - zs.length - 1, by omega⟩
            have hm2 : n - (zs ++ [(t, Value.slice aoa t.2.2.length capa)]).length = m := by simp; omega
            rw [HE.out, hm, hm2, listL_more hR' hc, joinR_joinR, List.map_append]
            rfl
          clear HE hR hR' O1 G1 hap HO3 HF3 Z1
          go_wp2_with (at_builtin; refine wpList_append_run _ rfl (.tmp 23) (.tmp 25) 34 34 rfl _ _ rfl rfl (hap' _) ?_)
          refine Calls.mono HT.out ?_
          rintro e w4 ⟨rfl, b4, hr4, hd4, hb4, hf4⟩
          have HG4 := hide (G3.out.then hr4 hf4)
          have O4 := hide (G3.out.rd.kept hf4 hrow.out (by decide))
          have Z4 : Hid (∀ z ∈ zs ++ [(t, Value.slice aoa t.2.2.length capa)], isTs w4 z.1.2.2 z.2) := fun z hz => isTs_kept G3.out.rd hf4 (Z3.out z hz)
          have HD4 := hide hd4
          clear hd4 hr4 hf4 HT hrow G3 hap' Z3
          go_wp2_with fail
          go_roundw
          case rel =>
            refine ⟨zs ++ [(t, Value.slice aoa t.2.2.length capa)], b4, by simp; omega, ?_, Z4, HG4, ?_, by omega⟩
            · show World.ownsRow _ _ _ _ _ _ _
              rw [List.length_append]
              exact O4.out
            · rw [HD4.out]
              exact HE'
          case measure => simp [lenOf]; omega
end Go.Proofs.YtcfhpodpkficaaaGreatDoor.Sy
namespace Go.Proofs.YtcfhpodpkficaaaGreatDoor.Sy
open Go.RowKit
open Lx (Wd tx cellsW wpList_append_run)
open Vl (Tm Fr)

/-- A rule as a value. -/
def isRul (w : World) (q : Rul) (y : Value) : Prop := ∃ va vb, y = .agg #[.int .i64 q.1.1, .string q.1.2.1, va, vb] ∧ isTs w q.1.2.2 va ∧ isLs w q.2 vb
def rulz : Value := .agg #[.int .i64 0, .string ⟨#[]⟩, .slice none 0 0, .slice none 0 0]
theorem sz36 : (Tryz.prog.info? 36).map (·.size) = some 4 := by kernel_rfl
theorem isLs_shape {w : World} {ls : List Lit} {y : Value} (h : isLs w ls y) : ∃ ao cap, y = .slice ao ls.length cap := by
  obtain ⟨zs, rfl, h2, _⟩ := h
  rw [List.length_map]
  exact (own_len h2).2

theorem Bx.four {w : World} {b : Nat} {T : TypeId} {x y z u : Value} (h : Bx w b T #[x, y, z, u]) : (w.cell? ⟨b, 0, none⟩ = some x ∧ w.cell? ⟨b, 1, none⟩ = some y ∧ w.cell? ⟨b, 2, none⟩ = some z ∧ w.cell? ⟨b, 3, none⟩ = some u) ∧ w.frozen? ⟨b, 0, none⟩ = false ∧ w.frozen? ⟨b, 1, none⟩ = false ∧ w.frozen? ⟨b, 2, none⟩ = false ∧ w.frozen? ⟨b, 3, none⟩ = false :=
  ⟨⟨h.c 0, h.c 1, h.c 2, h.c 3⟩, h.f 0, h.f 1, h.f 2, h.f 3⟩
theorem Gg.put4 {w W : World} {r : Nat} {v : Value} {L : List Wd} {a0 a : Nat} (h : Gg w r v L a W) (h0 : Rd w r v L a0) (b : Nat) (hb : w.heap.size ≤ b) (x y z u : Value) : Gg w r v L a ((((W.setCell ⟨b, 0, none⟩ x).setCell ⟨b, 1, none⟩ y).setCell ⟨b, 2, none⟩ z).setCell ⟨b, 3, none⟩ u) :=
  (h.put3 h0 b hb x y z).put h0 b 3 hb u
theorem fr4 {w W : World} {r : Nat} (h : Fr (fun k => k = r) w W) (b : Nat) (hb : w.heap.size ≤ b) (x y z u : Value) : Fr (fun k => k = r) w ((((W.setCell ⟨b, 0, none⟩ x).setCell ⟨b, 1, none⟩ y).setCell ⟨b, 2, none⟩ z).setCell ⟨b, 3, none⟩ u) :=
  (fr3 h b hb x y z).setCell (p := ⟨b, 3, none⟩) (fun h => absurd h (by show ¬ b < _; omega)) u
theorem isTs_put4 {W : World} {ts : List Tm} {y : Value} (h : isTs W ts y) {b : Nat} {T : TypeId} {cs : Array Value} (hb : Bx W b T cs) (hT : T ≠ 53) (x0 x1 x2 x3 : Value) : isTs ((((W.setCell ⟨b, 0, none⟩ x0).setCell ⟨b, 1, none⟩ x1).setCell ⟨b, 2, none⟩ x2).setCell ⟨b, 3, none⟩ x3) ts y :=
  isTs_put (isTs_put3 h hb hT x0 x1 x2) (((hb.set 0 x0).set 1 x1).set 2 x2) hT 3 x3
theorem own_put {W : World} {p e s n : Nat} {y : Value} {xs : List Value} (h : W.ownsRow p e s y n xs) {b : Nat} {T : TypeId} {cs : Array Value} (hb : Bx W b T cs) (hT : T ≠ e) (i : Nat) (x : Value) : (W.setCell ⟨b, i, none⟩ x).ownsRow p e s y n xs := by
  refine Vl.own_kept h (Vl.Fr.one W b i x) ?_
  intro k hk e
  subst e
  rcases h.2 with ⟨rfl, _⟩ | ⟨g, cap, cur, rfl, _, hg, _⟩
  · simp [Value.ownBlock] at hk
  · simp [Value.ownBlock] at hk
    subst hk
    have := hb.symm.trans hg
    simp only [Option.some.injEq, Obj.cells.injEq] at this
    exact hT this.2.1
theorem isLs_put {W : World} {ls : List Lit} {y : Value} (h : isLs W ls y) {b : Nat} {T : TypeId} {cs : Array Value} (hb : Bx W b T cs) (hT : T ≠ 53) (hT2 : T ≠ 33) (i : Nat) (x : Value) : isLs (W.setCell ⟨b, i, none⟩ x) ls y := by
  obtain ⟨zs, h1, h2, h3⟩ := h
  exact ⟨zs, h1, own_put h2 hb hT2 i x, fun z hz => isTs_put (h3 z hz) hb hT i x⟩
theorem isLs_put4 {W : World} {ls : List Lit} {y : Value} (h : isLs W ls y) {b : Nat} {T : TypeId} {cs : Array Value} (hb : Bx W b T cs) (hT : T ≠ 53) (hT2 : T ≠ 33) (x0 x1 x2 x3 : Value) : isLs ((((W.setCell ⟨b, 0, none⟩ x0).setCell ⟨b, 1, none⟩ x1).setCell ⟨b, 2, none⟩ x2).setCell ⟨b, 3, none⟩ x3) ls y :=
  isLs_put (isLs_put (isLs_put (isLs_put h hb hT hT2 0 x0) (hb.set 0 x0) hT hT2 1 x1) ((hb.set 0 x0).set 1 x1) hT hT2 2 x2) (((hb.set 0 x0).set 1 x1).set 2 x2) hT hT2 3 x3

/-- A clause's end, behind its head and its body. -/
def endR (h : Lit) (b : List Lit) (t : List Wd) : Re Rul := if takeB [46] t = true then .ok ((h, b), takeR [46] t) else .error false
def bodyR (h : Lit) : Re (List Lit) → Re Rul
  | .error e => .error e
  | .ok (b, r) => endR h b r
theorem clauseL_eq (ws : List Wd) : clauseL ws = (match atomL termW ws with
    | .error e => .error e
    | .ok (h, t) => if takeB [58, 45] t = true then bodyR h (listL litL 6 (takeR [58, 45] t)) else endR h [] (takeR [58, 45] t)) := by
  rw [clauseL]
  cases atomL termW ws with
  | error e => rfl
  | ok p =>
    obtain ⟨h, t⟩ := p
    simp only []
    cases hb : takeB [58, 45] t
    · simp only [takeR, hb, Bool.false_eq_true, if_false, endR]
      split <;> simp_all
    · simp only [takeR, hb, if_true]
      cases listL litL 6 t.tail with
      | error e => rfl
      | ok q =>
        obtain ⟨b, r⟩ := q
        simp only [bodyR, endR, takeR]
        split <;> simp_all

set_option maxRecDepth 10000 in
set_option maxHeartbeats 4000000 in
theorem clause_any {w : World} {r : Nat} {v : Value} {L : List Wd} {a : Nat} (h : Rd w r v L a) (hL : ∀ x ∈ L, OkF x) (hT : Tb w) :
    Calls Tryz.prog 23 #[.pointer (some ⟨r, 0, none⟩)] w fun e w' => Out isRul rulz (clauseL (L.drop a)) r v L a w e w' := by
  have HA : Hid (∀ o, Calls Tryz.prog 42 #[.pointer (some ⟨r, 0, none⟩), .func (.func 37) #[.pointer (some ⟨r, 0, none⟩)] #[]] (w.alloc o) fun e w' => Out isLit litz (atomL termW (L.drop a)) r v L a (w.alloc o) e w') := fun o => atom_any 37 termW term_f enters37 (h.below (Lx.below_box w o)) hL
  have HLs : Hid (∀ {W : World} {b : Nat}, Gg w r v L b W → Calls Tryz.prog 44 #[.pointer (some ⟨r, 0, none⟩), .int .i64 (6 : Int), .func (.func 45) #[.pointer (some ⟨r, 0, none⟩)] #[]] W fun e w' => Out isLs (.slice none 0 0) (listL litL 6 (L.drop b)) r v L b W e w') := fun hW => lits_any hW.rd hL (hT.kept h hW.fr) 6 (by decide)
  have HE := hide (clauseL_eq (L.drop a))
  have H := hide h
  have hrlt := h.lt
  have hmf := mk_func
  clear h hT hL
  obtain ⟨R, hR⟩ : ∃ R, atomL termW (L.drop a) = R := ⟨_, rfl⟩
  rw [hR] at HA HE
  clear hR
  go_enter Tryz.func23, Tryz.ntmps23
  go_wp2_with fail
  refine Calls.mono (HA.out _) ?_
  intro e w1 ho
  cases R with
  | error c =>
    obtain ⟨rfl, hf1⟩ := ho
    have hB1 := hide fun o => ((Bx.new w #[.int .i64 0, .string ⟨#[]⟩, .slice none 0 0, .slice none 0 0] 36).fr hf1 (by omega)).below (Lx.below_box w1 o)
    have F1 := hide fun o => (((Gg.refl H.out).alloc (.cells #[.int .i64 0, .string ⟨#[]⟩, .slice none 0 0, .slice none 0 0] 36)).fr.trans hf1 (fun _ _ e => e)).alloc o
    have c0 := fun o => (hB1.out o).four.1.1
    have c1 := fun o => (hB1.out o).four.1.2.1
    have c2 := fun o => (hB1.out o).four.1.2.2.1
    have c3 := fun o => (hB1.out o).four.1.2.2.2
    have f0 := fun o => (hB1.out o).four.2.1
    have f1 := fun o => (hB1.out o).four.2.2.1
    have f2 := fun o => (hB1.out o).four.2.2.2.1
    have f3 := fun o => (hB1.out o).four.2.2.2.2
    clear HA HLs hf1
    simp only [litz]
    cases c
    all_goals simp only [Bool.false_eq_true, if_false, if_true]
    all_goals go_wp2_with fail
    all_goals refine bodyPost_ret (ret_cell rfl _ _ w.heap.size 36 _ rfl (((((hB1.out _).set 0 _).set 1 _).set 2 _).set 3 _) Tryz.underlying36 sz36) rfl ?_
    all_goals (rw [HE.out]; exact ⟨rfl, fr4 (F1.out _) _ (Nat.le_refl _) _ _ _ _⟩)
  | ok p =>
    obtain ⟨l, rest⟩ := p
    obtain ⟨y, a1, rfl, ⟨va, rfl, hva⟩, hr1, hd1, hlt1, hf1⟩ := ho
    subst hd1
    obtain ⟨_, aoa, capa, rfl⟩ := own_len hva
    have hs1 := hf1.size
    simp at hs1
    have G1 := hide fun o => (((Gg.refl H.out).alloc (.cells #[.int .i64 0, .string ⟨#[]⟩, .slice none 0 0, .slice none 0 0] 36)).then hr1 hf1).alloc o
    have hB1 := hide fun o => ((Bx.new w #[.int .i64 0, .string ⟨#[]⟩, .slice none 0 0, .slice none 0 0] 36).fr hf1 (by omega)).below (Lx.below_box w1 o)
    have V1 := hide fun o => isTs_below hva (Lx.below_box w1 o)
    have HT2 := hide fun o => take_any [58, 45] (by decide) (G1.out o).rd
    simp only [] at HE
    clear HA hf1 hr1 hva
    go_wp2_with fail
    refine Calls.mono (HT2.out _) ?_
    rintro e w2 ⟨rfl, a2, hr2, hd2, ha2, hf2⟩
    have G2 := hide ((G1.out _).then hr2 hf2)
    have hB2 := hide ((hB1.out _).fr hf2 (by omega))
    have hS2 := hide ((Bx.new w1 #[.int .i64 l.1, .string l.2.1, .slice aoa l.2.2.length capa] 33).fr hf2 (by omega))
    have V2 := hide (isTs_kept (G1.out _).rd hf2 (V1.out _))
    clear HT2 hr2 hf2 G1 hB1 V1
    rw [← hd2] at HE
    clear hd2
    cases ht : takeB [58, 45] (L.drop a1)
    · rw [if_neg (by rw [ht]; decide)] at HE
      have HT3 := hide (take_any [46] (by decide) G2.out.rd)
      clear HLs
      go_wp2_with fail
      refine Calls.mono HT3.out ?_
      rintro e w4 ⟨rfl, a4, hr4, hd4, ha4, hf4⟩
      have G4 := hide (G2.out.then hr4 hf4)
      have hB4 := hide (hB2.out.fr hf4 (by omega))
      have hS4 := hide (hS2.out.fr hf4 (by omega))
      have V4 := hide (isTs_kept G2.out.rd hf4 V2.out)
      have HD4 := hide hd4
      obtain ⟨⟨c0, c1, c2, c3⟩, f0, f1, f2, f3⟩ := hB4.out.four
      obtain ⟨⟨d0, d1, d2⟩, _, _, _⟩ := hS4.out.three
      clear HT3 hr4 hf4 hd4 G2 hB2 hS2 V2
      cases ht4 : takeB [46] (L.drop a2)
      · rw [endR, if_neg (by rw [ht4]; decide)] at HE
        go_wp2_with fail
        refine bodyPost_ret (ret_cell rfl _ _ w.heap.size 36 _ rfl ((((hB4.out.set 0 _).set 1 _).set 2 _).set 3 _) Tryz.underlying36 sz36) rfl ?_
        rw [HE.out]
        exact ⟨rfl, fr4 G4.out.fr _ (Nat.le_refl _) _ _ _ _⟩
      · rw [endR, if_pos ht4] at HE
        go_wp2_with fail
        refine bodyPost_ret (ret_cell rfl _ _ w.heap.size 36 _ rfl ((((hB4.out.set 0 _).set 1 _).set 2 _).set 3 _) Tryz.underlying36 sz36) rfl ?_
        have q1 := G4.out.put4 H.out w.heap.size (Nat.le_refl _) (.int .i64 l.1) (.string l.2.1) (.slice aoa l.2.2.length capa) (.slice none 0 0)
        rw [HE.out]
        exact ⟨_, a4, rfl, ⟨_, _, rfl, isTs_put4 V4.out hB4.out (by decide) _ _ _ _, isLs_nil _⟩, q1.rd, HD4.out, by omega, q1.fr⟩
    · rw [if_pos ht] at HE
      have HL3 := hide (HLs.out G2.out)
      obtain ⟨R, hR⟩ : ∃ R, listL litL 6 (L.drop a2) = R := ⟨_, rfl⟩
      rw [hR] at HE HL3
      clear HLs hR
      go_wp2_with fail
      refine Calls.mono HL3.out ?_
      intro e w3 ho
      cases R with
      | error c =>
        obtain ⟨rfl, hf3⟩ := ho
        have hB3 := hide (hB2.out.fr hf3 (by omega))
        have F3 := hide (G2.out.fr.trans hf3 (fun _ _ e => e))
        obtain ⟨⟨c0, c1, c2, c3⟩, f0, f1, f2, f3⟩ := hB3.out.four
        clear HL3 hf3
        cases c
        all_goals simp only [Bool.false_eq_true, if_false, if_true]
        all_goals go_wp2_with fail
        all_goals refine bodyPost_ret (ret_cell rfl _ _ w.heap.size 36 _ rfl ((((hB3.out.set 0 _).set 1 _).set 2 _).set 3 _) Tryz.underlying36 sz36) rfl ?_
        all_goals (rw [HE.out]; exact ⟨rfl, fr4 F3.out _ (Nat.le_refl _) _ _ _ _⟩)
      | ok p =>
        obtain ⟨b, rest⟩ := p
        obtain ⟨y, a3, rfl, hy, hr3, hd3, hlt3, hf3⟩ := ho
        subst hd3
        obtain ⟨aob, capb, rfl⟩ := isLs_shape hy
        have G3 := hide (G2.out.then hr3 hf3)
        have hB3 := hide (hB2.out.fr hf3 (by omega))
        have hS3 := hide (hS2.out.fr hf3 (by omega))
        have V3 := hide (isTs_kept G2.out.rd hf3 V2.out)
        have HY3 := hide hy
        have HT3 := hide (take_any [46] (by decide) G3.out.rd)
        simp only [bodyR] at HE
        clear HL3 hf3 hr3 hy G2 hB2 hS2 V2
        go_wp2_with fail
        refine Calls.mono HT3.out ?_
        rintro e w4 ⟨rfl, a4, hr4, hd4, ha4, hf4⟩
        have G4 := hide (G3.out.then hr4 hf4)
        have hB4 := hide (hB3.out.fr hf4 (by omega))
        have hS4 := hide (hS3.out.fr hf4 (by omega))
        have V4 := hide (isTs_kept G3.out.rd hf4 V3.out)
        have Y4 := hide (isLs_kept G3.out.rd hf4 HY3.out)
        have HD4 := hide hd4
        obtain ⟨⟨c0, c1, c2, c3⟩, f0, f1, f2, f3⟩ := hB4.out.four
        obtain ⟨⟨d0, d1, d2⟩, _, _, _⟩ := hS4.out.three
        clear HT3 hr4 hf4 hd4 G3 hB3 hS3 V3 HY3
        cases ht4 : takeB [46] (L.drop a3)
        · rw [endR, if_neg (by rw [ht4]; decide)] at HE
          go_wp2_with fail
          refine bodyPost_ret (ret_cell rfl _ _ w.heap.size 36 _ rfl ((((hB4.out.set 0 _).set 1 _).set 2 _).set 3 _) Tryz.underlying36 sz36) rfl ?_
          rw [HE.out]
          exact ⟨rfl, fr4 G4.out.fr _ (Nat.le_refl _) _ _ _ _⟩
        · rw [endR, if_pos ht4] at HE
          go_wp2_with fail
          refine bodyPost_ret (ret_cell rfl _ _ w.heap.size 36 _ rfl ((((hB4.out.set 0 _).set 1 _).set 2 _).set 3 _) Tryz.underlying36 sz36) rfl ?_
          have q1 := G4.out.put4 H.out w.heap.size (Nat.le_refl _) (.int .i64 l.1) (.string l.2.1) (.slice aoa l.2.2.length capa) (.slice aob b.length capb)
          rw [HE.out]
          exact ⟨_, a4, rfl, ⟨_, _, rfl, isTs_put4 V4.out hB4.out (by decide) _ _ _ _, isLs_put4 Y4.out hB4.out (by decide) (by decide) _ _ _ _⟩, q1.rd, HD4.out, by omega, q1.fr⟩
end Go.Proofs.YtcfhpodpkficaaaGreatDoor.Sy

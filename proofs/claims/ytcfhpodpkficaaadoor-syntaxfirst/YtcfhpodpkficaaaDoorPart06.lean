/- The walk of literal. Rows of literals; the walk of the list of literals. The walk of clause. The walks of words (where there is no fault), open and Program. The walks of signOf, termText and literalText. -/
import Derived.Test.YtcfhpodpkficaaaDoorPart05
import Derived.Deep.RegionHeld
namespace Go.Proofs.YtcfhpodpkficaaaDoor.Sy
open Go.RowKit
open Lx (Wd tx cellsW wpList_append_run)
open Vl (Tm Fr)

theorem isTs_below {w w' : World} {ts : List Tm} {y : Value} (h : isTs w ts y) (hb : Below w.heap.size w w') : isTs w' ts y := Lx.own_below h hb
def notR : Re Lit → Re Lit
  | .error e => .error e
  | .ok (l, r) => .ok ((2, l.2), r)
theorem mk_func (fn : Fn) (first cap : Array Value) (w : World) : (Instr.makeFunc fn first cap).run Tryd.prog w = .ok (.func fn first cap) w := rfl

set_option maxRecDepth 10000 in
set_option maxHeartbeats 4000000 in
theorem literal_any {w : World} {r : Nat} {v : Value} {L : List Wd} {a : Nat} (h : Rd w r v L a) (hL : ∀ x ∈ L, OkF x) (hT : Tb w) :
    Calls Tryd.prog 21 #[.pointer (some ⟨r, 0, none⟩)] w fun e w' => Out isLit litz (litL (L.drop a)) r v L a w e w' := by
  have HTk := hide fun o => take_any [33] (by decide) (h.below (Lx.below_box w o))
  have HA : Hid (∀ {W : World} {b : Nat}, Rd W r v L b → Calls Tryd.prog 17 #[.pointer (some ⟨r, 0, none⟩), .func (.func 18) #[.pointer (some ⟨r, 0, none⟩)] #[]] W fun e w' => Out isLit litz (atomL termW (L.drop b)) r v L b W e w') := fun hW => atom_any 18 termW term_f enters37 hW hL
  have HC : Hid (∀ {W : World} {b : Nat}, Rd W r v L b → Tb W → Calls Tryd.prog 35 #[.pointer (some ⟨r, 0, none⟩)] W fun e w' => Out isLit litz (cmpL (L.drop b)) r v L b W e w') := fun hW hTW => comparison_any hW hL hTW
  have H := hide h
  have HTb := hide hT
  have hrlt := h.lt
  have hmf := mk_func
  clear h hT hL
  cases ht : takeB [33] (L.drop a)
  · go_enter Tryd.func21, Tryd.ntmps21
    go_wp2_with fail
    refine Calls.mono (HTk.out _) ?_
    rintro e w1 ⟨rfl, a1, hr1, hd1, ha1, hf1⟩
    rw [ht]
    have hd1' : L.drop a1 = L.drop a := by rw [hd1, takeR, if_neg (by rw [ht]; decide)]
    have hs1 := hf1.size
    simp at hs1
    have G1 := hide (((Gg.refl H.out).alloc (.cells #[.int .i64 0, .string ⟨#[]⟩, .slice none 0 0] 36)).then hr1 hf1)
    have hB1 := hide ((Bx.new w #[.int .i64 0, .string ⟨#[]⟩, .slice none 0 0] 36).fr hf1 (by omega))
    have HT1 := hide (HTb.out.kept H.out G1.out.fr)
    have HN := hide (next_any G1.out.rd)
    rw [hd1'] at HN
    have hdr : L.drop (a1 + 1) = (L.drop a).tail := by rw [← hd1', drop_tail]
    have hle1 := hr1.le
    clear HTk hf1 hr1 hd1
    by_cases hk : (nextW (L.drop a)).1 = 1
    · have hlt1 : a1 < L.length := by
        rw [← hd1'] at hk
        exact lt_of_next (by decide) hk
      by_cases hq : kindOf (nextW (L.drop a).tail).2.1 = 0
      · have HE : Hid (litL (L.drop a) = atomL termW (L.drop a1)) := by show _ = _; rw [litL, if_neg (by rw [ht]; decide), if_pos ⟨hk, hq⟩, hd1']
        have HQ : Hid (∀ W, Gg w r v L a1 W → Calls Tryd.prog 34 #[.pointer (some ⟨r, 0, none⟩)] W fun e w' => e = .returned (.bool false) ∧ Below W.heap.size W w') := fun W hW => by
          have := comparedNext_any hW.rd hlt1 (HTb.out.kept H.out hW.fr)
          rw [hdr, hq] at this
          exact this
        obtain ⟨x, hx⟩ : ∃ x, nextW (L.drop a) = x := ⟨_, rfl⟩
        rw [hx] at HN hk
        simp only [wv, hk] at HN
        have hfk := fldK
        clear hx hk hq hdr hd1' ht HC
        go_wp2_with fail
        refine Calls.mono HN.out ?_
        rintro e w2 ⟨rfl, hb2⟩
        have G2 := hide (G1.out.below hb2)
        have hB2 := hide (hB1.out.below hb2)
        clear HN hb2 G1 hB1
        go_wp2_with fail
        refine Calls.mono (HQ.out _ G2.out) ?_
        rintro e w3 ⟨rfl, hb3⟩
        have G3 := hide (G2.out.below hb3)
        have hB3 := hide (hB2.out.below hb3)
        have HA3 := hide (HA.out G3.out.rd)
        clear HQ hb3 G2 hB2 HA
        obtain ⟨R, hR⟩ : ∃ R, atomL termW (L.drop a1) = R := ⟨_, rfl⟩
        rw [hR] at HE HA3
        clear hR
        go_wp2_with fail
        refine Calls.mono HA3.out ?_
        intro e w4 ho
        cases R with
        | error c =>
          obtain ⟨rfl, hf4⟩ := ho
          have hB4 := hide (hB3.out.fr hf4 (by omega))
          have F4 := hide (G3.out.fr.trans hf4 (fun _ _ e => e))
          obtain ⟨⟨c0, c1, c2⟩, f0, f1, f2⟩ := hB4.out.three
          clear HA3 hf4
          simp only [litz]
          cases c
          all_goals simp only [Bool.false_eq_true, if_false, if_true]
          all_goals go_wp2_with fail
          all_goals refine bodyPost_ret (ret_cell rfl _ _ w.heap.size 36 _ rfl (((hB4.out.set 0 _).set 1 _).set 2 _) Tryd.underlying36 sz33) rfl ?_
          all_goals (rw [HE.out]; exact ⟨rfl, fr3 F4.out _ (Nat.le_refl _) _ _ _⟩)
        | ok p =>
          obtain ⟨l, rest⟩ := p
          obtain ⟨y, a4, rfl, ⟨va, rfl, hva⟩, hr4, hd4, hlt4, hf4⟩ := ho
          obtain ⟨_, ao, cap, rfl⟩ := own_len hva
          have G4 := hide (G3.out.then hr4 hf4)
          have hB4 := hide (hB3.out.fr hf4 (by omega))
          have HV := hide hva
          have HD4 := hide hd4
          obtain ⟨⟨c0, c1, c2⟩, f0, f1, f2⟩ := hB4.out.three
          clear HA3 hf4 hr4 hd4 hva
          go_wp2_with fail
          refine bodyPost_ret (ret_cell rfl _ _ w.heap.size 36 _ rfl (((hB4.out.set 0 _).set 1 _).set 2 _) Tryd.underlying36 sz33) rfl ?_
          have q1 := G4.out.put3 H.out w.heap.size (Nat.le_refl _) (.int .i64 l.1) (.string l.2.1) (.slice ao l.2.2.length cap)
          rw [HE.out]
          exact ⟨_, a4, rfl, ⟨_, rfl, isTs_put3 HV.out hB4.out (by decide) _ _ _⟩, q1.rd, HD4.out, by omega, q1.fr⟩
      · have HE : Hid (litL (L.drop a) = cmpL (L.drop a1)) := by show _ = _; rw [litL, if_neg (by rw [ht]; decide), if_neg (fun h => hq h.2), hd1']
        have HQ : Hid (∀ W, Gg w r v L a1 W → Calls Tryd.prog 34 #[.pointer (some ⟨r, 0, none⟩)] W fun e w' => e = .returned (.bool true) ∧ Below W.heap.size W w') := fun W hW => by
          have := comparedNext_any hW.rd hlt1 (HTb.out.kept H.out hW.fr)
          rw [hdr, show (!decide (kindOf (nextW (L.drop a).tail).2.1 = 0)) = true by simpa using hq] at this
          exact this
        obtain ⟨x, hx⟩ : ∃ x, nextW (L.drop a) = x := ⟨_, rfl⟩
        rw [hx] at HN hk
        simp only [wv, hk] at HN
        have hfk := fldK
        clear hx hk hq hdr hd1' ht HA
        go_wp2_with fail
        refine Calls.mono HN.out ?_
        rintro e w2 ⟨rfl, hb2⟩
        have G2 := hide (G1.out.below hb2)
        have hB2 := hide (hB1.out.below hb2)
        clear HN hb2 G1 hB1
        go_wp2_with fail
        refine Calls.mono (HQ.out _ G2.out) ?_
        rintro e w3 ⟨rfl, hb3⟩
        have G3 := hide (G2.out.below hb3)
        have hB3 := hide (hB2.out.below hb3)
        have HA3 := hide (HC.out G3.out.rd (HTb.out.kept H.out G3.out.fr))
        clear HQ hb3 G2 hB2 HC
        obtain ⟨R, hR⟩ : ∃ R, cmpL (L.drop a1) = R := ⟨_, rfl⟩
        rw [hR] at HE HA3
        clear hR
        go_wp2_with fail
        refine Calls.mono HA3.out ?_
        intro e w4 ho
        cases R with
        | error c =>
          obtain ⟨rfl, hf4⟩ := ho
          have hB4 := hide (hB3.out.fr hf4 (by omega))
          have F4 := hide (G3.out.fr.trans hf4 (fun _ _ e => e))
          obtain ⟨⟨c0, c1, c2⟩, f0, f1, f2⟩ := hB4.out.three
          clear HA3 hf4
          simp only [litz]
          cases c
          all_goals simp only [Bool.false_eq_true, if_false, if_true]
          all_goals go_wp2_with fail
          all_goals refine bodyPost_ret (ret_cell rfl _ _ w.heap.size 36 _ rfl (((hB4.out.set 0 _).set 1 _).set 2 _) Tryd.underlying36 sz33) rfl ?_
          all_goals (rw [HE.out]; exact ⟨rfl, fr3 F4.out _ (Nat.le_refl _) _ _ _⟩)
        | ok p =>
          obtain ⟨l, rest⟩ := p
          obtain ⟨y, a4, rfl, ⟨va, rfl, hva⟩, hr4, hd4, hlt4, hf4⟩ := ho
          obtain ⟨_, ao, cap, rfl⟩ := own_len hva
          have G4 := hide (G3.out.then hr4 hf4)
          have hB4 := hide (hB3.out.fr hf4 (by omega))
          have HV := hide hva
          have HD4 := hide hd4
          obtain ⟨⟨c0, c1, c2⟩, f0, f1, f2⟩ := hB4.out.three
          clear HA3 hf4 hr4 hd4 hva
          go_wp2_with fail
          refine bodyPost_ret (ret_cell rfl _ _ w.heap.size 36 _ rfl (((hB4.out.set 0 _).set 1 _).set 2 _) Tryd.underlying36 sz33) rfl ?_
          have q1 := G4.out.put3 H.out w.heap.size (Nat.le_refl _) (.int .i64 l.1) (.string l.2.1) (.slice ao l.2.2.length cap)
          rw [HE.out]
          exact ⟨_, a4, rfl, ⟨_, rfl, isTs_put3 HV.out hB4.out (by decide) _ _ _⟩, q1.rd, HD4.out, by omega, q1.fr⟩
    · have HE : Hid (litL (L.drop a) = cmpL (L.drop a1)) := by show _ = _; rw [litL, if_neg (by rw [ht]; decide), if_neg (fun h => hk h.1), hd1']
      obtain ⟨x, hx⟩ : ∃ x, nextW (L.drop a) = x := ⟨_, rfl⟩
      rw [hx] at HN hk
      have gk : ((x.1 : Int) == 1) = false := by simp; omega
      simp only [wv] at HN
      have hfk := fldK
      clear hx hk hdr hd1' ht HA
      go_wp2_with fail
      refine Calls.mono HN.out ?_
      rintro e w3 ⟨rfl, hb2⟩
      have G3 := hide (G1.out.below hb2)
      have hB3 := hide (hB1.out.below hb2)
      have HA3 := hide (HC.out G3.out.rd (HTb.out.kept H.out G3.out.fr))
      clear HN hb2 G1 hB1 HC
      obtain ⟨R, hR⟩ : ∃ R, cmpL (L.drop a1) = R := ⟨_, rfl⟩
      rw [hR] at HE HA3
      clear hR
      go_wp2_with fail
      refine Calls.mono HA3.out ?_
      intro e w4 ho
      cases R with
      | error c =>
        obtain ⟨rfl, hf4⟩ := ho
        have hB4 := hide (hB3.out.fr hf4 (by omega))
        have F4 := hide (G3.out.fr.trans hf4 (fun _ _ e => e))
        obtain ⟨⟨c0, c1, c2⟩, f0, f1, f2⟩ := hB4.out.three
        clear HA3 hf4
        simp only [litz]
        cases c
        all_goals simp only [Bool.false_eq_true, if_false, if_true]
        all_goals go_wp2_with fail
        all_goals refine bodyPost_ret (ret_cell rfl _ _ w.heap.size 36 _ rfl (((hB4.out.set 0 _).set 1 _).set 2 _) Tryd.underlying36 sz33) rfl ?_
        all_goals (rw [HE.out]; exact ⟨rfl, fr3 F4.out _ (Nat.le_refl _) _ _ _⟩)
      | ok p =>
        obtain ⟨l, rest⟩ := p
        obtain ⟨y, a4, rfl, ⟨va, rfl, hva⟩, hr4, hd4, hlt4, hf4⟩ := ho
        obtain ⟨_, ao, cap, rfl⟩ := own_len hva
        have G4 := hide (G3.out.then hr4 hf4)
        have hB4 := hide (hB3.out.fr hf4 (by omega))
        have HV := hide hva
        have HD4 := hide hd4
        obtain ⟨⟨c0, c1, c2⟩, f0, f1, f2⟩ := hB4.out.three
        clear HA3 hf4 hr4 hd4 hva
        go_wp2_with fail
        refine bodyPost_ret (ret_cell rfl _ _ w.heap.size 36 _ rfl (((hB4.out.set 0 _).set 1 _).set 2 _) Tryd.underlying36 sz33) rfl ?_
        have q1 := G4.out.put3 H.out w.heap.size (Nat.le_refl _) (.int .i64 l.1) (.string l.2.1) (.slice ao l.2.2.length cap)
        rw [HE.out]
        exact ⟨_, a4, rfl, ⟨_, rfl, isTs_put3 HV.out hB4.out (by decide) _ _ _⟩, q1.rd, HD4.out, by omega, q1.fr⟩
  · go_enter Tryd.func21, Tryd.ntmps21
    go_wp2_with fail
    refine Calls.mono (HTk.out _) ?_
    rintro e w1 ⟨rfl, a1, hr1, hd1, ha1, hf1⟩
    rw [ht]
    have hd1' : L.drop a1 = (L.drop a).tail := by rw [hd1, takeR, if_pos ht]
    have hs1 := hf1.size
    simp at hs1
    have G1 := hide (((Gg.refl H.out).alloc (.cells #[.int .i64 0, .string ⟨#[]⟩, .slice none 0 0] 36)).then hr1 hf1)
    have hB1 := hide ((Bx.new w #[.int .i64 0, .string ⟨#[]⟩, .slice none 0 0] 36).fr hf1 (by omega))
    have HA1 := hide (HA.out G1.out.rd)
    obtain ⟨R, hR⟩ : ∃ R, atomL termW (L.drop a1) = R := ⟨_, rfl⟩
    have HE : Hid (litL (L.drop a) = notR R) := by
      show _ = _
      rw [litL, if_pos ht, ← hd1', ← hR]
      cases atomL termW (L.drop a1) <;> rfl
    rw [hR] at HA1
    clear HTk hf1 hr1 hd1 hd1' ht hR HA HC
    go_wp2_with fail
    refine Calls.mono HA1.out ?_
    intro e w4 ho
    cases R with
    | error c =>
      obtain ⟨rfl, hf4⟩ := ho
      have hB4 := hide fun o => (hB1.out.fr hf4 (by omega)).below (Lx.below_box w4 o)
      have F4 := hide fun o => (G1.out.fr.trans hf4 (fun _ _ e => e)).alloc o
      have c0 := fun o => (hB4.out o).three.1.1
      have c1 := fun o => (hB4.out o).three.1.2.1
      have c2 := fun o => (hB4.out o).three.1.2.2
      have f0 := fun o => (hB4.out o).three.2.1
      have f1 := fun o => (hB4.out o).three.2.2.1
      have f2 := fun o => (hB4.out o).three.2.2.2
      clear HA1 hf4
      simp only [litz]
      cases c
      all_goals simp only [Bool.false_eq_true, if_false, if_true]
      all_goals go_wp2_with fail
      all_goals refine bodyPost_ret (ret_cell rfl _ _ w.heap.size 36 _ rfl ((((hB4.out _).set 0 _).set 1 _).set 2 _) Tryd.underlying36 sz33) rfl ?_
      all_goals (rw [HE.out]; exact ⟨rfl, fr3 (F4.out _) _ (Nat.le_refl _) _ _ _⟩)
    | ok p =>
      obtain ⟨l, rest⟩ := p
      obtain ⟨y, a4, rfl, ⟨va, rfl, hva⟩, hr4, hd4, hlt4, hf4⟩ := ho
      obtain ⟨_, ao, cap, rfl⟩ := own_len hva
      have G4 := hide fun o => (G1.out.then hr4 hf4).alloc o
      have hB4 := hide fun o => (hB1.out.fr hf4 (by omega)).below (Lx.below_box w4 o)
      have HV := hide fun o => isTs_below hva (Lx.below_box w4 o)
      have HD4 := hide hd4
      have c0 := fun o => (hB4.out o).three.1.1
      have c1 := fun o => (hB4.out o).three.1.2.1
      have c2 := fun o => (hB4.out o).three.1.2.2
      have f0 := fun o => (hB4.out o).three.2.1
      have f1 := fun o => (hB4.out o).three.2.2.1
      have f2 := fun o => (hB4.out o).three.2.2.2
      clear HA1 hf4 hr4 hd4 hva
      go_wp2_with fail
      refine bodyPost_ret (ret_cell rfl _ _ w.heap.size 36 _ rfl ((((hB4.out _).set 0 _).set 1 _).set 2 _) Tryd.underlying36 sz33) rfl ?_
      have q1 := (G4.out (.cells #[.int .i64 2, .string l.2.1, .slice ao l.2.2.length cap] 36)).put3 H.out w.heap.size (Nat.le_refl _) (.int .i64 2) (.string l.2.1) (.slice ao l.2.2.length cap)
      rw [HE.out]
      exact ⟨_, a4, rfl, ⟨_, rfl, isTs_put3 (HV.out _) (hB4.out _) (by decide) _ _ _⟩, q1.rd, HD4.out, by omega, q1.fr⟩
end Go.Proofs.YtcfhpodpkficaaaDoor.Sy
namespace Go.Proofs.YtcfhpodpkficaaaDoor.Sy
open Go.RowKit
open Lx (Wd tx cellsW wpList_append_run)
open Vl (Tm Fr)

def cellsLz (zs : List (Lit × Value)) : List Value := zs.flatMap fun z => [.int .i64 z.1.1, .string z.1.2.1, z.2]
theorem cellsLz_snoc (zs : List (Lit × Value)) (z : Lit × Value) : cellsLz (zs ++ [z]) = cellsLz zs ++ [.int .i64 z.1.1, .string z.1.2.1, z.2] := by simp [cellsLz]
/-- A row of literals. -/
def isLs (w : World) (ls : List Lit) (y : Value) : Prop := ∃ zs : List (Lit × Value), zs.map (·.1) = ls ∧ w.ownsRow 0 36 3 y zs.length (cellsLz zs) ∧ ∀ z ∈ zs, isTs w z.1.2.2 z.2
theorem isLs_nil (w : World) : isLs w [] (.slice none 0 0) := ⟨[], rfl, ⟨by simp [cellsLz], .inl ⟨rfl, rfl⟩⟩, by simp⟩
theorem isLs_kept {w w' : World} {r : Nat} {v : Value} {L : List Wd} {a : Nat} (h : Rd w r v L a) (hf : Fr (fun k => k = r) w w') {ls : List Lit} {y : Value} (ht : isLs w ls y) : isLs w' ls y := by
  obtain ⟨zs, h1, h2, h3⟩ := ht
  exact ⟨zs, h1, h.kept hf h2 (by decide), fun z hz => isTs_kept h hf (h3 z hz)⟩
theorem isLs_below {w w' : World} {ls : List Lit} {y : Value} (ht : isLs w ls y) (hb : Below w.heap.size w w') : isLs w' ls y := by
  obtain ⟨zs, h1, h2, h3⟩ := ht
  exact ⟨zs, h1, Lx.own_below h2 hb, fun z hz => isTs_below (h3 z hz) hb⟩
theorem isTs_grow {W W' : World} {ts : List Tm} {y : Value} (h : isTs W ts y) {b e s n : Nat} {u : Value} {xs : List Value} (ho : W.ownsRow b e s u n xs) (he : e ≠ 41) (hf : Fr (fun k => u.ownBlock = some k) W W') : isTs W' ts y :=
  Vl.own_kept h hf fun _ hk hk2 => Vl.own_ne ho h he hk2 hk
theorem isTs_one {w : World} {ts : List Tm} {y : Value} (h : isTs w ts y) : y.oneCell' = true := Vl.own_one h

set_option maxRecDepth 10000 in
set_option maxHeartbeats 2000000 in
theorem lits_any {w : World} {r : Nat} {v : Value} {L : List Wd} {a : Nat} (h : Rd w r v L a) (hL : ∀ x ∈ L, OkF x) (hT : Tb w) (n : Nat) (hn : n ≤ 1000) :
    Calls Tryd.prog 20 #[.pointer (some ⟨r, 0, none⟩), .int .i64 (n : Int), .func (.func 21) #[.pointer (some ⟨r, 0, none⟩)] #[]] w fun e w' => Out isLs (.slice none 0 0) (listL litL n (L.drop a)) r v L a w e w' := by
  have he' : ∀ (args : Array Value) (w : World), (callFunc 21 args).run Tryd.prog w = .ok (.enter 21 args) w := enters45
  have HF : Hid (∀ {W : World} {b : Nat}, Gg w r v L b W → Calls Tryd.prog 21 #[.pointer (some ⟨r, 0, none⟩)] W fun e w' => Out isLit litz (litL (L.drop b)) r v L b W e w') := fun hW => literal_any hW.rd hL (hT.kept h hW.fr)
  have H := hide h
  clear h hL hT
  go_enter Tryd.func20, Tryd.ntmps20
  go_wp2_with fail
  go_loopw [8] (fun y wr => ∃ (zs : List (Lit × Value)) (b : Nat), zs.length ≤ n ∧ Hid (wr.ownsRow w.heap.size 36 3 y zs.length (cellsLz zs)) ∧ Hid (∀ z ∈ zs, isTs wr z.1.2.2 z.2) ∧ Hid (Gg w r v L b wr) ∧ Hid (listL litL n (L.drop a) = joinR (zs.map (·.1)) (listL litL (n - zs.length) (L.drop b))) ∧ a ≤ b) (fun y _ => n + 1 - lenOf y)
  case atStart => exact ⟨[], a, Nat.zero_le _, ⟨by simp [cellsLz], .inl ⟨rfl, rfl⟩⟩, fun z hz => absurd hz (by simp), Gg.refl H.out, (joinR_nil _).symm, Nat.le_refl _⟩
  case round =>
    obtain ⟨zs, b, hacc, HO, HZ, HG, HE, hab⟩ := hrel
    have HI := hide (HF.out HG.out)
    obtain ⟨R, hR⟩ : ∃ R, Hid (litL (L.drop b) = R) := ⟨_, rfl⟩
    rw [hR.out] at HI
    obtain ⟨hlen, ao, cap, rfl⟩ := own_len HO.out
    go_wp2_with (go_at_fn 21; refine Calls.mono HI.out ?_)
    intro e w1 ho
    cases R with
    | error c =>
      obtain ⟨rfl, hf⟩ := ho
      rw [listL_err hR.out] at HE
      have F1 : Fr (fun k => k = r) w w1 := HG.out.fr.trans hf (fun _ _ e => e)
      have HF1 : Hid (∀ o, Fr (fun k => k = r) w (w1.alloc o)) := fun o => F1.alloc o
      clear hf F1 HI HO HG HZ
      simp only [litz]
      cases c
      all_goals simp only [Bool.false_eq_true, if_false, if_true]
      all_goals go_wp2_with fail
      all_goals go_ret2
      all_goals (rw [HE.out]; exact ⟨rfl, HF1.out _⟩)
    | ok p =>
      obtain ⟨t, rest⟩ := p
      obtain ⟨y, b', rfl, ⟨va, rfl, hva⟩, hr, hd, hbb, hf⟩ := ho
      subst hd
      obtain ⟨_, aoa, capa, rfl⟩ := own_len hva
      have G1 : Hid (Gg w r v L b' w1) := HG.out.then hr hf
      have O1 : Hid (w1.ownsRow w.heap.size 36 3 (.slice ao zs.length cap) zs.length (cellsLz zs)) := HG.out.rd.kept hf HO.out (by decide)
      have Z1 : Hid (∀ z ∈ zs ++ [(t, Value.slice aoa t.2.2.length capa)], isTs w1 z.1.2.2 z.2) := fun z hz => by
        rcases List.mem_append.1 hz with hz | hz
        · exact isTs_kept HG.out.rd hf (HZ.out z hz)
        · obtain rfl : z = (t, Value.slice aoa t.2.2.length capa) := by simpa using hz
          exact hva
      clear hf hr HG HO HI HZ hva
      by_cases hfull : zs.length = n
      · have gf : ((zs.length : Int) == (n : Int)) = true := by simp; omega
        have HE' : Hid (listL litL n (L.drop a) = .error true) := by
          rw [HE.out, hfull, Nat.sub_self, listL_zero hR.out]
          rfl
        have HF1 : Hid (∀ o, Fr (fun k => k = r) w (w1.alloc o)) := fun o => G1.out.fr.alloc o
        clear HE hR O1 G1 hfull Z1
        go_wp2_with fail
        go_ret2
        rw [HE'.out]
        exact ⟨rfl, HF1.out _⟩
      · have gf : ((zs.length : Int) == (n : Int)) = false := by simp; omega
        have hsz := G1.out.fr.size
        obtain ⟨g3, cap3, w3, hap, HO3, HF3⟩ := push_row 37 36 3 48 _ Tryd.underlying37 Tryd.info36 rfl (by decide) (by decide) (O1.out.alloc (.cells #[.int .i64 t.1, .string t.2.1, .slice aoa t.2.2.length capa] 36)) [.int .i64 t.1, .string t.2.1, .slice aoa t.2.2.length capa] rfl (by simp [Value.oneCell']) (by omega) (by simp; omega)
        have hap' : ∀ ty, (Builtin.append_ #[37, 37] ty #[.slice ao zs.length cap, .slice (some ⟨w1.heap.size + 1, 0, none⟩) 1 1]).run Tryd.prog ((w1.alloc (.cells #[.int .i64 t.1, .string t.2.1, .slice aoa t.2.2.length capa] 36)).alloc (.cells #[.int .i64 t.1, .string t.2.1, .slice aoa t.2.2.length capa] 36)) = .ok (.slice (some ⟨g3, 0, none⟩) (zs.length + 1) cap3) w3 := fun ty => by
          have := hap ty
          simpa using this
        have G3 : Hid (Gg w r v L b' w3) := (G1.out.alloc _).grow H.out HF3.out fun k hk => (O1.out.lt k hk).1
        have Z3 : Hid (∀ z ∈ zs ++ [(t, Value.slice aoa t.2.2.length capa)], isTs w3 z.1.2.2 z.2) := fun z hz => isTs_grow (isTs_below (Z1.out z hz) (Lx.below_box w1 _)) (O1.out.alloc (.cells #[.int .i64 t.1, .string t.2.1, .slice aoa t.2.2.length capa] 36)) (by decide) HF3.out
        have hrow : Hid (w3.ownsRow w.heap.size 36 3 (.slice (some ⟨g3, 0, none⟩) (zs.length + 1) cap3) (zs.length + 1) (cellsLz (zs ++ [(t, Value.slice aoa t.2.2.length capa)]))) := by
          rw [cellsLz_snoc]
          exact HO3.out
        have HT := hide (take_any [44] (by decide) G3.out.rd)
        have hR' := hR.out
        cases hc : takeB [44] (L.drop b')
        · rw [hc] at HT
          have HE' : Hid (listL litL n (L.drop a) = .ok ((zs ++ [(t, Value.slice aoa t.2.2.length capa)]).map (·.1), L.drop b')) := by
            obtain ⟨m, hm⟩ : ∃ m, n - zs.length = m + 1 := ⟨n - zs.length - 1, by omega⟩
            rw [HE.out, hm, listL_last hR' hc, List.map_append]
            rfl
          clear HE hR hR' O1 G1 hap HO3 HF3 HF Z1
          go_wp2_with (at_builtin; refine wpList_append_run _ rfl (.tmp 23) (.tmp 25) 37 37 rfl _ _ rfl rfl (hap' _) ?_)
          refine Calls.mono HT.out ?_
          rintro e w4 ⟨rfl, b4, hr4, hd4, hb4, hf4⟩
          have O4 := hide (Vl.own_zero (G3.out.rd.kept hf4 hrow.out (by decide)))
          have Z4 : Hid (∀ z ∈ zs ++ [(t, Value.slice aoa t.2.2.length capa)], isTs w4 z.1.2.2 z.2) := fun z hz => isTs_kept G3.out.rd hf4 (Z3.out z hz)
          have HG4 := hide (G3.out.then hr4 hf4)
          have HD4 : Hid (L.drop b4 = L.drop b') := by rw [hd4, takeR, if_neg (by rw [hc]; decide)]; rfl
          clear hd4 hr4 hf4 HT hrow G3 hap' Z3
          go_wp2_with fail
          go_ret2
          rw [HE'.out]
          exact ⟨_, b4, rfl, ⟨_, rfl, by rw [List.length_append]; exact O4.out, Z4.out⟩, HG4.out.rd, HD4.out, by omega, HG4.out.fr⟩
        · rw [hc] at HT
          have HE' : Hid (listL litL n (L.drop a) = joinR ((zs ++ [(t, Value.slice aoa t.2.2.length capa)]).map (·.1)) (listL litL (n - (zs ++ [(t, Value.slice aoa t.2.2.length capa)]).length) (takeR [44] (L.drop b')))) := by
            obtain ⟨m, hm⟩ : ∃ m, n - zs.length = m + 1 := ⟨n - zs.length - 1, by omega⟩
            have hm2 : n - (zs ++ [(t, Value.slice aoa t.2.2.length capa)]).length = m := by simp; omega
            rw [HE.out, hm, hm2, listL_more hR' hc, joinR_joinR, List.map_append]
            rfl
          clear HE hR hR' O1 G1 hap HO3 HF3 Z1
          go_wp2_with (at_builtin; refine wpList_append_run _ rfl (.tmp 23) (.tmp 25) 37 37 rfl _ _ rfl rfl (hap' _) ?_)
          refine Calls.mono HT.out ?_
          rintro e w4 ⟨rfl, b4, hr4, hd4, hb4, hf4⟩
          have HG4 := hide (G3.out.then hr4 hf4)
          have O4 := hide (G3.out.rd.kept hf4 hrow.out (by decide))
          have Z4 : Hid (∀ z ∈ zs ++ [(t, Value.slice aoa t.2.2.length capa)], isTs w4 z.1.2.2 z.2) := fun z hz => isTs_kept G3.out.rd hf4 (Z3.out z hz)
          have HD4 := hide hd4
          clear hd4 hr4 hf4 HT hrow G3 hap' Z3
          go_wp2_with fail
          go_roundw
          case rel =>
            refine ⟨zs ++ [(t, Value.slice aoa t.2.2.length capa)], b4, by simp; omega, ?_, Z4, HG4, ?_, by omega⟩
            · show World.ownsRow _ _ _ _ _ _ _
              rw [List.length_append]
              exact O4.out
            · rw [HD4.out]
              exact HE'
          case measure => simp [lenOf]; omega
end Go.Proofs.YtcfhpodpkficaaaDoor.Sy
namespace Go.Proofs.YtcfhpodpkficaaaDoor.Sy
open Go.RowKit
open Lx (Wd tx cellsW wpList_append_run)
open Vl (Tm Fr)

/-- A rule as a value. -/
def isRul (w : World) (q : Rul) (y : Value) : Prop := ∃ va vb, y = .agg #[.int .i64 q.1.1, .string q.1.2.1, va, vb] ∧ isTs w q.1.2.2 va ∧ isLs w q.2 vb
def rulz : Value := .agg #[.int .i64 0, .string ⟨#[]⟩, .slice none 0 0, .slice none 0 0]
theorem sz36 : (Tryd.prog.info? 39).map (·.size) = some 4 := by kernel_rfl
theorem isLs_shape {w : World} {ls : List Lit} {y : Value} (h : isLs w ls y) : ∃ ao cap, y = .slice ao ls.length cap := by
  obtain ⟨zs, rfl, h2, _⟩ := h
  rw [List.length_map]
  exact (own_len h2).2

theorem Bx.four {w : World} {b : Nat} {T : TypeId} {x y z u : Value} (h : Bx w b T #[x, y, z, u]) : (w.cell? ⟨b, 0, none⟩ = some x ∧ w.cell? ⟨b, 1, none⟩ = some y ∧ w.cell? ⟨b, 2, none⟩ = some z ∧ w.cell? ⟨b, 3, none⟩ = some u) ∧ w.frozen? ⟨b, 0, none⟩ = false ∧ w.frozen? ⟨b, 1, none⟩ = false ∧ w.frozen? ⟨b, 2, none⟩ = false ∧ w.frozen? ⟨b, 3, none⟩ = false :=
  ⟨⟨h.c 0, h.c 1, h.c 2, h.c 3⟩, h.f 0, h.f 1, h.f 2, h.f 3⟩
theorem Gg.put4 {w W : World} {r : Nat} {v : Value} {L : List Wd} {a0 a : Nat} (h : Gg w r v L a W) (h0 : Rd w r v L a0) (b : Nat) (hb : w.heap.size ≤ b) (x y z u : Value) : Gg w r v L a ((((W.setCell ⟨b, 0, none⟩ x).setCell ⟨b, 1, none⟩ y).setCell ⟨b, 2, none⟩ z).setCell ⟨b, 3, none⟩ u) :=
  (h.put3 h0 b hb x y z).put h0 b 3 hb u
theorem fr4 {w W : World} {r : Nat} (h : Fr (fun k => k = r) w W) (b : Nat) (hb : w.heap.size ≤ b) (x y z u : Value) : Fr (fun k => k = r) w ((((W.setCell ⟨b, 0, none⟩ x).setCell ⟨b, 1, none⟩ y).setCell ⟨b, 2, none⟩ z).setCell ⟨b, 3, none⟩ u) :=
  (fr3 h b hb x y z).setCell (p := ⟨b, 3, none⟩) (fun h => absurd h (by show ¬ b < _; omega)) u
theorem isTs_put4 {W : World} {ts : List Tm} {y : Value} (h : isTs W ts y) {b : Nat} {T : TypeId} {cs : Array Value} (hb : Bx W b T cs) (hT : T ≠ 41) (x0 x1 x2 x3 : Value) : isTs ((((W.setCell ⟨b, 0, none⟩ x0).setCell ⟨b, 1, none⟩ x1).setCell ⟨b, 2, none⟩ x2).setCell ⟨b, 3, none⟩ x3) ts y :=
  isTs_put (isTs_put3 h hb hT x0 x1 x2) (((hb.set 0 x0).set 1 x1).set 2 x2) hT 3 x3
theorem own_put {W : World} {p e s n : Nat} {y : Value} {xs : List Value} (h : W.ownsRow p e s y n xs) {b : Nat} {T : TypeId} {cs : Array Value} (hb : Bx W b T cs) (hT : T ≠ e) (i : Nat) (x : Value) : (W.setCell ⟨b, i, none⟩ x).ownsRow p e s y n xs := by
  refine Vl.own_kept h (Vl.Fr.one W b i x) ?_
  intro k hk e
  subst e
  rcases h.2 with ⟨rfl, _⟩ | ⟨g, cap, cur, rfl, _, hg, _⟩
  · simp [Value.ownBlock] at hk
  · simp [Value.ownBlock] at hk
    subst hk
    have := hb.symm.trans hg
    simp only [Option.some.injEq, Obj.cells.injEq] at this
    exact hT this.2.1
theorem isLs_put {W : World} {ls : List Lit} {y : Value} (h : isLs W ls y) {b : Nat} {T : TypeId} {cs : Array Value} (hb : Bx W b T cs) (hT : T ≠ 41) (hT2 : T ≠ 36) (i : Nat) (x : Value) : isLs (W.setCell ⟨b, i, none⟩ x) ls y := by
  obtain ⟨zs, h1, h2, h3⟩ := h
  exact ⟨zs, h1, own_put h2 hb hT2 i x, fun z hz => isTs_put (h3 z hz) hb hT i x⟩
theorem isLs_put4 {W : World} {ls : List Lit} {y : Value} (h : isLs W ls y) {b : Nat} {T : TypeId} {cs : Array Value} (hb : Bx W b T cs) (hT : T ≠ 41) (hT2 : T ≠ 36) (x0 x1 x2 x3 : Value) : isLs ((((W.setCell ⟨b, 0, none⟩ x0).setCell ⟨b, 1, none⟩ x1).setCell ⟨b, 2, none⟩ x2).setCell ⟨b, 3, none⟩ x3) ls y :=
  isLs_put (isLs_put (isLs_put (isLs_put h hb hT hT2 0 x0) (hb.set 0 x0) hT hT2 1 x1) ((hb.set 0 x0).set 1 x1) hT hT2 2 x2) (((hb.set 0 x0).set 1 x1).set 2 x2) hT hT2 3 x3

/-- A clause's end, behind its head and its body. -/
def endR (h : Lit) (b : List Lit) (t : List Wd) : Re Rul := if takeB [46] t = true then .ok ((h, b), takeR [46] t) else .error false
def bodyR (h : Lit) : Re (List Lit) → Re Rul
  | .error e => .error e
  | .ok (b, r) => endR h b r
theorem clauseL_eq (ws : List Wd) : clauseL ws = (match atomL termW ws with
    | .error e => .error e
    | .ok (h, t) => if takeB [58, 45] t = true then bodyR h (listL litL 6 (takeR [58, 45] t)) else endR h [] (takeR [58, 45] t)) := by
  rw [clauseL]
  cases atomL termW ws with
  | error e => rfl
  | ok p =>
    obtain ⟨h, t⟩ := p
    simp only []
    cases hb : takeB [58, 45] t
    · simp only [takeR, hb, Bool.false_eq_true, if_false, endR]
      split <;> simp_all
    · simp only [takeR, hb, if_true]
      cases listL litL 6 t.tail with
      | error e => rfl
      | ok q =>
        obtain ⟨b, r⟩ := q
        simp only [bodyR, endR, takeR]
        split <;> simp_all

set_option maxRecDepth 10000 in
set_option maxHeartbeats 4000000 in
theorem clause_any {w : World} {r : Nat} {v : Value} {L : List Wd} {a : Nat} (h : Rd w r v L a) (hL : ∀ x ∈ L, OkF x) (hT : Tb w) :
    Calls Tryd.prog 11 #[.pointer (some ⟨r, 0, none⟩)] w fun e w' => Out isRul rulz (clauseL (L.drop a)) r v L a w e w' := by
  have HA : Hid (∀ o, Calls Tryd.prog 17 #[.pointer (some ⟨r, 0, none⟩), .func (.func 18) #[.pointer (some ⟨r, 0, none⟩)] #[]] (w.alloc o) fun e w' => Out isLit litz (atomL termW (L.drop a)) r v L a (w.alloc o) e w') := fun o => atom_any 18 termW term_f enters37 (h.below (Lx.below_box w o)) hL
  have HLs : Hid (∀ {W : World} {b : Nat}, Gg w r v L b W → Calls Tryd.prog 20 #[.pointer (some ⟨r, 0, none⟩), .int .i64 (6 : Int), .func (.func 21) #[.pointer (some ⟨r, 0, none⟩)] #[]] W fun e w' => Out isLs (.slice none 0 0) (listL litL 6 (L.drop b)) r v L b W e w') := fun hW => lits_any hW.rd hL (hT.kept h hW.fr) 6 (by decide)
  have HE := hide (clauseL_eq (L.drop a))
  have H := hide h
  have hrlt := h.lt
  have hmf := mk_func
  clear h hT hL
  obtain ⟨R, hR⟩ : ∃ R, atomL termW (L.drop a) = R := ⟨_, rfl⟩
  rw [hR] at HA HE
  clear hR
  go_enter Tryd.func11, Tryd.ntmps11
  go_wp2_with fail
  refine Calls.mono (HA.out _) ?_
  intro e w1 ho
  cases R with
  | error c =>
    obtain ⟨rfl, hf1⟩ := ho
    have hB1 := hide fun o => ((Bx.new w #[.int .i64 0, .string ⟨#[]⟩, .slice none 0 0, .slice none 0 0] 39).fr hf1 (by omega)).below (Lx.below_box w1 o)
    have F1 := hide fun o => (((Gg.refl H.out).alloc (.cells #[.int .i64 0, .string ⟨#[]⟩, .slice none 0 0, .slice none 0 0] 39)).fr.trans hf1 (fun _ _ e => e)).alloc o
    have c0 := fun o => (hB1.out o).four.1.1
    have c1 := fun o => (hB1.out o).four.1.2.1
    have c2 := fun o => (hB1.out o).four.1.2.2.1
    have c3 := fun o => (hB1.out o).four.1.2.2.2
    have f0 := fun o => (hB1.out o).four.2.1
    have f1 := fun o => (hB1.out o).four.2.2.1
    have f2 := fun o => (hB1.out o).four.2.2.2.1
    have f3 := fun o => (hB1.out o).four.2.2.2.2
    clear HA HLs hf1
    simp only [litz]
    cases c
    all_goals simp only [Bool.false_eq_true, if_false, if_true]
    all_goals go_wp2_with fail
    all_goals refine bodyPost_ret (ret_cell rfl _ _ w.heap.size 39 _ rfl (((((hB1.out _).set 0 _).set 1 _).set 2 _).set 3 _) Tryd.underlying39 sz36) rfl ?_
    all_goals (rw [HE.out]; exact ⟨rfl, fr4 (F1.out _) _ (Nat.le_refl _) _ _ _ _⟩)
  | ok p =>
    obtain ⟨l, rest⟩ := p
    obtain ⟨y, a1, rfl, ⟨va, rfl, hva⟩, hr1, hd1, hlt1, hf1⟩ := ho
    subst hd1
    obtain ⟨_, aoa, capa, rfl⟩ := own_len hva
    have hs1 := hf1.size
    simp at hs1
    have G1 := hide fun o => (((Gg.refl H.out).alloc (.cells #[.int .i64 0, .string ⟨#[]⟩, .slice none 0 0, .slice none 0 0] 39)).then hr1 hf1).alloc o
    have hB1 := hide fun o => ((Bx.new w #[.int .i64 0, .string ⟨#[]⟩, .slice none 0 0, .slice none 0 0] 39).fr hf1 (by omega)).below (Lx.below_box w1 o)
    have V1 := hide fun o => isTs_below hva (Lx.below_box w1 o)
    have HT2 := hide fun o => take_any [58, 45] (by decide) (G1.out o).rd
    simp only [] at HE
    clear HA hf1 hr1 hva
    go_wp2_with fail
    refine Calls.mono (HT2.out _) ?_
    rintro e w2 ⟨rfl, a2, hr2, hd2, ha2, hf2⟩
    have G2 := hide ((G1.out _).then hr2 hf2)
    have hB2 := hide ((hB1.out _).fr hf2 (by omega))
    have hS2 := hide ((Bx.new w1 #[.int .i64 l.1, .string l.2.1, .slice aoa l.2.2.length capa] 36).fr hf2 (by omega))
    have V2 := hide (isTs_kept (G1.out _).rd hf2 (V1.out _))
    clear HT2 hr2 hf2 G1 hB1 V1
    rw [← hd2] at HE
    clear hd2
    cases ht : takeB [58, 45] (L.drop a1)
    · rw [if_neg (by rw [ht]; decide)] at HE
      have HT3 := hide (take_any [46] (by decide) G2.out.rd)
      clear HLs
      go_wp2_with fail
      refine Calls.mono HT3.out ?_
      rintro e w4 ⟨rfl, a4, hr4, hd4, ha4, hf4⟩
      have G4 := hide (G2.out.then hr4 hf4)
      have hB4 := hide (hB2.out.fr hf4 (by omega))
      have hS4 := hide (hS2.out.fr hf4 (by omega))
      have V4 := hide (isTs_kept G2.out.rd hf4 V2.out)
      have HD4 := hide hd4
      obtain ⟨⟨c0, c1, c2, c3⟩, f0, f1, f2, f3⟩ := hB4.out.four
      obtain ⟨⟨d0, d1, d2⟩, _, _, _⟩ := hS4.out.three
      clear HT3 hr4 hf4 hd4 G2 hB2 hS2 V2
      cases ht4 : takeB [46] (L.drop a2)
      · rw [endR, if_neg (by rw [ht4]; decide)] at HE
        go_wp2_with fail
        refine bodyPost_ret (ret_cell rfl _ _ w.heap.size 39 _ rfl ((((hB4.out.set 0 _).set 1 _).set 2 _).set 3 _) Tryd.underlying39 sz36) rfl ?_
        rw [HE.out]
        exact ⟨rfl, fr4 G4.out.fr _ (Nat.le_refl _) _ _ _ _⟩
      · rw [endR, if_pos ht4] at HE
        go_wp2_with fail
        refine bodyPost_ret (ret_cell rfl _ _ w.heap.size 39 _ rfl ((((hB4.out.set 0 _).set 1 _).set 2 _).set 3 _) Tryd.underlying39 sz36) rfl ?_
        have q1 := G4.out.put4 H.out w.heap.size (Nat.le_refl _) (.int .i64 l.1) (.string l.2.1) (.slice aoa l.2.2.length capa) (.slice none 0 0)
        rw [HE.out]
        exact ⟨_, a4, rfl, ⟨_, _, rfl, isTs_put4 V4.out hB4.out (by decide) _ _ _ _, isLs_nil _⟩, q1.rd, HD4.out, by omega, q1.fr⟩
    · rw [if_pos ht] at HE
      have HL3 := hide (HLs.out G2.out)
      obtain ⟨R, hR⟩ : ∃ R, listL litL 6 (L.drop a2) = R := ⟨_, rfl⟩
      rw [hR] at HE HL3
      clear HLs hR
      go_wp2_with fail
      refine Calls.mono HL3.out ?_
      intro e w3 ho
      cases R with
      | error c =>
        obtain ⟨rfl, hf3⟩ := ho
        have hB3 := hide (hB2.out.fr hf3 (by omega))
        have F3 := hide (G2.out.fr.trans hf3 (fun _ _ e => e))
        obtain ⟨⟨c0, c1, c2, c3⟩, f0, f1, f2, f3⟩ := hB3.out.four
        clear HL3 hf3
        cases c
        all_goals simp only [Bool.false_eq_true, if_false, if_true]
        all_goals go_wp2_with fail
        all_goals refine bodyPost_ret (ret_cell rfl _ _ w.heap.size 39 _ rfl ((((hB3.out.set 0 _).set 1 _).set 2 _).set 3 _) Tryd.underlying39 sz36) rfl ?_
        all_goals (rw [HE.out]; exact ⟨rfl, fr4 F3.out _ (Nat.le_refl _) _ _ _ _⟩)
      | ok p =>
        obtain ⟨b, rest⟩ := p
        obtain ⟨y, a3, rfl, hy, hr3, hd3, hlt3, hf3⟩ := ho
        subst hd3
        obtain ⟨aob, capb, rfl⟩ := isLs_shape hy
        have G3 := hide (G2.out.then hr3 hf3)
        have hB3 := hide (hB2.out.fr hf3 (by omega))
        have hS3 := hide (hS2.out.fr hf3 (by omega))
        have V3 := hide (isTs_kept G2.out.rd hf3 V2.out)
        have HY3 := hide hy
        have HT3 := hide (take_any [46] (by decide) G3.out.rd)
        simp only [bodyR] at HE
        clear HL3 hf3 hr3 hy G2 hB2 hS2 V2
        go_wp2_with fail
        refine Calls.mono HT3.out ?_
        rintro e w4 ⟨rfl, a4, hr4, hd4, ha4, hf4⟩
        have G4 := hide (G3.out.then hr4 hf4)
        have hB4 := hide (hB3.out.fr hf4 (by omega))
        have hS4 := hide (hS3.out.fr hf4 (by omega))
        have V4 := hide (isTs_kept G3.out.rd hf4 V3.out)
        have Y4 := hide (isLs_kept G3.out.rd hf4 HY3.out)
        have HD4 := hide hd4
        obtain ⟨⟨c0, c1, c2, c3⟩, f0, f1, f2, f3⟩ := hB4.out.four
        obtain ⟨⟨d0, d1, d2⟩, _, _, _⟩ := hS4.out.three
        clear HT3 hr4 hf4 hd4 G3 hB3 hS3 V3 HY3
        cases ht4 : takeB [46] (L.drop a3)
        · rw [endR, if_neg (by rw [ht4]; decide)] at HE
          go_wp2_with fail
          refine bodyPost_ret (ret_cell rfl _ _ w.heap.size 39 _ rfl ((((hB4.out.set 0 _).set 1 _).set 2 _).set 3 _) Tryd.underlying39 sz36) rfl ?_
          rw [HE.out]
          exact ⟨rfl, fr4 G4.out.fr _ (Nat.le_refl _) _ _ _ _⟩
        · rw [endR, if_pos ht4] at HE
          go_wp2_with fail
          refine bodyPost_ret (ret_cell rfl _ _ w.heap.size 39 _ rfl ((((hB4.out.set 0 _).set 1 _).set 2 _).set 3 _) Tryd.underlying39 sz36) rfl ?_
          have q1 := G4.out.put4 H.out w.heap.size (Nat.le_refl _) (.int .i64 l.1) (.string l.2.1) (.slice aoa l.2.2.length capa) (.slice aob b.length capb)
          rw [HE.out]
          exact ⟨_, a4, rfl, ⟨_, _, rfl, isTs_put4 V4.out hB4.out (by decide) _ _ _ _, isLs_put4 Y4.out hB4.out (by decide) (by decide) _ _ _ _⟩, q1.rd, HD4.out, by omega, q1.fr⟩
end Go.Proofs.YtcfhpodpkficaaaDoor.Sy
namespace Go.Proofs.YtcfhpodpkficaaaDoor.Sy
open Go.RowKit
open Lx (Wd tx cellsW wpList_append_run bs scanAt Sg)
open Vl (Tm Fr)

/-- What words gives. -/
def Ws (s : ByteArray) (w : World) (e : Ending) (w' : World) : Prop := ∃ v, e = .returned (.tuple #[v, .int .i64 0]) ∧ w'.ownsRow w.heap.size 64 3 v (wordsL (bs s)).length (cellsW (wordsL (bs s))) ∧ Below w.heap.size w w'

set_option maxRecDepth 10000 in
theorem words_good (s : ByteArray) (w : World) (hg : Sg w) (hs : s.size ≤ 4000) {L : List Wd} (h : scanAt (bs s) 0 = some L) :
    Calls Tryd.prog 16 #[.string s] w fun e w' => Ws s w e w' := by
  have HS := hide (Lx.scan_any s w hg hs)
  have e : wordsL (bs s) = L := by rw [wordsL, h]
  unfold Ws
  rw [e]
  go_enter Tryd.func16, Tryd.ntmps16
  go_wp2_with fail
  refine Calls.mono HS.out ?_
  rintro e w1 (⟨v, L', h1, rfl, hr⟩ | ⟨h1, _⟩)
  · obtain rfl : L = L' := Option.some.inj (h.symm.trans h1)
    have HR := hide hr
    obtain ⟨ao, cap, rfl, _⟩ := hr.slice
    clear hr h1 h HS
    go_wp2_with fail
    go_ret2
    exact ⟨_, rfl, HR.out.row, HR.out.below⟩
  · rw [h] at h1
    cases h1

theorem words_long (s : ByteArray) (w : World) (hs : 4000 < s.size) :
    Calls Tryd.prog 16 #[.string s] w fun e w' => e = .returned (.tuple #[.slice none 0 0, .int .i64 8]) ∧ w' = w := by
  have HS := hide (Lx.scan_long s w hs)
  go_enter Tryd.func16, Tryd.ntmps16
  go_wp2_with fail
  refine Calls.mono HS.out ?_
  rintro e w1 ⟨rfl, hw⟩
  have hw' := hw.symm
  subst hw'
  go_wp2_with fail
  go_ret2
  exact ⟨rfl, rfl⟩

theorem open_of (s : ByteArray) (w : World) (hs : s.size ≤ 4000) (HW : Calls Tryd.prog 16 #[.string s] w fun e w' => Ws s w e w') :
    Calls Tryd.prog 9 #[.string s] w fun e w' => ∃ r v, e = .returned (.tuple #[.pointer (some ⟨r, 0, none⟩), .int .i64 0]) ∧ Rd w' r v (wordsL (bs s)) 0 ∧ Below w.heap.size w w' ∧ w.heap.size ≤ r := by
  have hlen := (words_ok (bs s)).2
  rw [Lx.bs_length] at hlen
  have HW' := hide HW
  clear HW
  go_enter Tryd.func9, Tryd.ntmps9
  go_wp2_with fail
  refine Calls.mono HW'.out ?_
  rintro e w1 ⟨v, rfl, hr, hb⟩
  have HR := hide hr
  have HB := hide hb
  have hsz := hb.size
  obtain ⟨_, ao, cap, rfl⟩ := own_len hr
  clear hr hb HW'
  go_wp2_with fail
  go_ret2
  refine ⟨_, _, rfl, ⟨Bx.new w1 _ _, Vl.own_zero (HR.out.alloc _), Nat.zero_le _, by omega⟩, HB.out.alloc hsz _, hsz⟩

theorem open_long (s : ByteArray) (w : World) (hs : 4000 < s.size) :
    Calls Tryd.prog 9 #[.string s] w fun e w' => ∃ p, e = .returned (.tuple #[p, .int .i64 8]) ∧ Below w.heap.size w w' := by
  have HW := hide (words_long s w hs)
  go_enter Tryd.func9, Tryd.ntmps9
  go_wp2_with fail
  refine Calls.mono HW.out ?_
  rintro e w1 ⟨rfl, hw⟩
  have hw' := hw.symm
  subst hw'
  go_wp2_with fail
  go_ret2
  exact ⟨_, rfl, Lx.below_box _ _⟩

def cellsRz (zs : List (Rul × Value × Value)) : List Value := zs.flatMap fun z => [.int .i64 z.1.1.1, .string z.1.1.2.1, z.2.1, z.2.2]
theorem cellsRz_snoc (zs : List (Rul × Value × Value)) (z : Rul × Value × Value) : cellsRz (zs ++ [z]) = cellsRz zs ++ [.int .i64 z.1.1.1, .string z.1.1.2.1, z.2.1, z.2.2] := by simp [cellsRz]
/-- A row of rules. -/
def isRs (w : World) (ls : List Rul) (y : Value) : Prop := ∃ zs : List (Rul × Value × Value), zs.map (·.1) = ls ∧ w.ownsRow 0 39 4 y zs.length (cellsRz zs) ∧ ∀ z ∈ zs, isTs w z.1.1.2.2 z.2.1 ∧ isLs w z.1.2 z.2.2
theorem isRs_below {w w' : World} {ls : List Rul} {y : Value} (ht : isRs w ls y) (hb : Below w.heap.size w w') : isRs w' ls y := by
  obtain ⟨zs, h1, h2, h3⟩ := ht
  exact ⟨zs, h1, Lx.own_below h2 hb, fun z hz => ⟨isTs_below (h3 z hz).1 hb, isLs_below (h3 z hz).2 hb⟩⟩
theorem isLs_grow {W W' : World} {ls : List Lit} {y : Value} (h : isLs W ls y) {b e s n : Nat} {u : Value} {xs : List Value} (ho : W.ownsRow b e s u n xs) (he : e ≠ 41) (he2 : e ≠ 36) (hf : Fr (fun k => u.ownBlock = some k) W W') : isLs W' ls y := by
  obtain ⟨zs, h1, h2, h3⟩ := h
  exact ⟨zs, h1, Vl.own_kept h2 hf fun _ hk hk2 => Vl.own_ne ho h2 he2 hk2 hk, fun z hz => isTs_grow (h3 z hz) ho he hf⟩

def joinP (acc : List Rul) : Except Bool (List Rul) → Except Bool (List Rul)
  | .error e => .error e
  | .ok l => .ok (acc ++ l)
theorem joinP_nil (R : Except Bool (List Rul)) : joinP [] R = R := by cases R <;> rfl
theorem progL_err {n : Nat} {ws : List Wd} {e : Bool} (hw : ws ≠ []) (h : clauseL ws = .error e) : progL n ws = .error e := by
  obtain ⟨x, t, rfl⟩ := List.exists_cons_of_ne_nil hw
  cases n <;> simp [progL, h]
theorem progL_zero {ws : List Wd} {p : Rul × List Wd} (hw : ws ≠ []) (h : clauseL ws = .ok p) : progL 0 ws = .error true := by
  obtain ⟨x, t, rfl⟩ := List.exists_cons_of_ne_nil hw
  simp [progL, h]
theorem progL_more {n : Nat} {ws : List Wd} {c : Rul} {r : List Wd} (hw : ws ≠ []) (h : clauseL ws = .ok (c, r)) : progL (n + 1) ws = joinP [c] (progL n r) := by
  obtain ⟨x, t, rfl⟩ := List.exists_cons_of_ne_nil hw
  simp only [progL, h]
  cases progL n r <;> rfl
theorem progL_nil (n : Nat) : progL n [] = .ok [] := by cases n <;> rfl
theorem joinP_joinP (a b : List Rul) (R : Except Bool (List Rul)) : joinP a (joinP b R) = joinP (a ++ b) R := by
  cases R with
  | error e => rfl
  | ok p => simp [joinP]

/-- What Program gives of words. -/
def Pg (R : Except Bool (List Rul)) (w : World) (e : Ending) (w' : World) : Prop :=
  (match R with
  | .error c => e = .returned (.tuple #[.slice none 0 0, .int .i64 (if c = true then 8 else 4)])
  | .ok l => ∃ y, e = .returned (.tuple #[y, .int .i64 0]) ∧ isRs w' l y) ∧ Below w.heap.size w w'

theorem program_long (s : ByteArray) (w : World) (hs : 4000 < s.size) :
    Calls Tryd.prog 6 #[.string s] w fun e w' => Pg (.error true) w e w' := by
  have HO := hide (open_long s w hs)
  go_enter Tryd.func6, Tryd.ntmps6
  go_wp2_with fail
  refine Calls.mono HO.out ?_
  rintro e w1 ⟨p, rfl, hb⟩
  go_wp2_with fail
  go_ret2
  exact ⟨rfl, hb⟩

set_option maxRecDepth 10000 in
set_option maxHeartbeats 4000000 in
theorem program_of (s : ByteArray) (w : World) (hs : s.size ≤ 4000) (hT : Tb w) (HW : Calls Tryd.prog 16 #[.string s] w fun e w' => Ws s w e w') :
    Calls Tryd.prog 6 #[.string s] w fun e w' => Pg (progL 30 (wordsL (bs s))) w e w' := by
  have HO := hide (open_of s w hs HW)
  have HL := hide (words_ok (bs s)).1
  have HTb := hide hT
  clear HW hT
  obtain ⟨L, hL⟩ : ∃ L, wordsL (bs s) = L := ⟨_, rfl⟩
  rw [hL] at HO HL ⊢
  clear hL
  go_enter Tryd.func6, Tryd.ntmps6
  go_wp2_with fail
  refine Calls.mono HO.out ?_
  rintro e w0 ⟨r, v, rfl, hr0, hb0, hrw⟩
  have H := hide hr0
  have HB := hide hb0
  have HT0 := hide (HTb.out.below hb0)
  have hrlt := hr0.lt
  have hsz0 := hb0.size
  clear HO hr0 hb0 HTb
  go_wp2_with fail
  go_loopw [6] (fun y wr => ∃ (zs : List (Rul × Value × Value)) (b : Nat), zs.length ≤ 30 ∧ Hid (wr.ownsRow w0.heap.size 39 4 y zs.length (cellsRz zs)) ∧ Hid (∀ z ∈ zs, isTs wr z.1.1.2.2 z.2.1 ∧ isLs wr z.1.2 z.2.2) ∧ Hid (Gg w0 r v L b wr) ∧ Hid (progL 30 L = joinP (zs.map (·.1)) (progL (30 - zs.length) (L.drop b)))) (fun y _ => 31 - lenOf y)
  case atStart => exact ⟨[], 0, Nat.zero_le _, ⟨by simp [cellsRz], .inl ⟨rfl, rfl⟩⟩, fun z hz => absurd hz (by simp), Gg.refl H.out, (joinP_nil _).symm⟩
  case round =>
    obtain ⟨zs, b, hacc, HO, HZ, HG, HE⟩ := hrel
    have HD := hide (done_any HG.out.rd)
    obtain ⟨hlen, ao, cap, rfl⟩ := own_len HO.out
    have hle := HG.out.rd.le
    by_cases hdone : b = L.length
    · rw [show decide (b = L.length) = true by simpa using hdone] at HD
      have HE' : Hid (progL 30 L = .ok (zs.map (·.1))) := by
        rw [HE.out, drop_end L b (by omega), progL_nil]
        show Except.ok _ = _
        simp
      go_wp2_with fail
      refine Calls.mono HD.out ?_
      rintro e w1 ⟨rfl, n, rfl⟩
      go_wp2_with fail
      go_ret2
      rw [HE'.out]
      refine ⟨⟨_, rfl, ⟨zs, rfl, Vl.own_zero (Lx.own_below HO.out (below_drewN _ _)), fun z hz => ⟨isTs_below (HZ.out z hz).1 (below_drewN _ _), isLs_below (HZ.out z hz).2 (below_drewN _ _)⟩⟩⟩, ?_⟩
      have hF : Below w.heap.size w0 wr := HG.out.fr.below (fun k hk => by omega) hsz0
      exact (HB.out.trans hF).trans ((below_drewN wr n).mono (Nat.le_trans hsz0 HG.out.fr.size))
    · rw [show decide (b = L.length) = false by simpa using hdone] at HD
      have hne : L.drop b ≠ [] := by
        intro e0
        have := congrArg List.length e0
        rw [List.length_drop] at this
        simp at this
        omega
      have HC : Hid (∀ n, Calls Tryd.prog 11 #[.pointer (some ⟨r, 0, none⟩)] (wr.drewN n) fun e w' => Out isRul rulz (clauseL (L.drop b)) r v L b (wr.drewN n) e w') := fun n =>
        clause_any (HG.out.below (below_drewN wr n)).rd HL.out (HT0.out.kept H.out (HG.out.below (below_drewN wr n)).fr)
      obtain ⟨R, hR⟩ : ∃ R, Hid (clauseL (L.drop b) = R) := ⟨_, rfl⟩
      rw [hR.out] at HC
      go_wp2_with fail
      refine Calls.mono HD.out ?_
      rintro e w1 ⟨rfl, n, rfl⟩
      go_wp2_with fail
      refine Calls.mono (HC.out n) ?_
      intro e w1 ho
      cases R with
      | error c =>
        obtain ⟨rfl, hf⟩ := ho
        have HE' : Hid (progL 30 L = .error c) := by
          show _ = _
          rw [HE.out, progL_err hne hR.out]
          rfl
        have F1 : Fr (fun k => k = r) w0 w1 := (HG.out.below (below_drewN wr n)).fr.trans hf (fun _ _ e => e)
        have HF1 : Hid (∀ o, Below w.heap.size w (w1.alloc o)) := fun o => HB.out.trans ((F1.alloc o).below (fun k hk => by omega) hsz0)
        clear hf F1 HC HO HG HZ HE HD
        simp only [rulz]
        cases c
        all_goals simp only [Bool.false_eq_true, if_false, if_true]
        all_goals go_wp2_with fail
        all_goals go_ret2
        all_goals (rw [HE'.out]; exact ⟨rfl, HF1.out _⟩)
      | ok p =>
        obtain ⟨t, rest⟩ := p
        obtain ⟨y, b', rfl, ⟨va, vb, rfl, hva, hvb⟩, hr, hd, hbb, hf⟩ := ho
        subst hd
        obtain ⟨_, aoa, capa, rfl⟩ := own_len hva
        obtain ⟨aob, capb, rfl⟩ := isLs_shape hvb
        have GN := (HG.out.below (below_drewN wr n))
        have G1 : Hid (Gg w0 r v L b' w1) := GN.then hr hf
        have O1 : Hid (w1.ownsRow w0.heap.size 39 4 (.slice ao zs.length cap) zs.length (cellsRz zs)) := GN.rd.kept hf (Lx.own_below HO.out (below_drewN wr n)) (by decide)
        have Z1 : Hid (∀ z ∈ zs ++ [(t, Value.slice aoa t.1.2.2.length capa, Value.slice aob t.2.length capb)], isTs w1 z.1.1.2.2 z.2.1 ∧ isLs w1 z.1.2 z.2.2) := fun z hz => by
          rcases List.mem_append.1 hz with hz | hz
          · exact ⟨isTs_kept GN.rd hf (isTs_below (HZ.out z hz).1 (below_drewN _ _)), isLs_kept GN.rd hf (isLs_below (HZ.out z hz).2 (below_drewN _ _))⟩
          · obtain rfl : z = (t, Value.slice aoa t.1.2.2.length capa, Value.slice aob t.2.length capb) := by simpa using hz
            exact ⟨hva, hvb⟩
        clear hf hr HG HO HC HZ hva hvb GN HD
        by_cases hfull : zs.length = 30
        · have gf : ((zs.length : Int) == 30) = true := by simp; omega
          have HE' : Hid (progL 30 L = .error true) := by
            rw [HE.out, hfull, Nat.sub_self, progL_zero hne hR.out]
            rfl
          have HF1 : Hid (∀ o, Below w.heap.size w (w1.alloc o)) := fun o => HB.out.trans ((G1.out.fr.alloc o).below (fun k hk => by omega) hsz0)
          clear HE hR O1 G1 hfull Z1
          go_wp2_with fail
          go_ret2
          rw [HE'.out]
          exact ⟨rfl, HF1.out _⟩
        · have gf : ((zs.length : Int) == 30) = false := by simp; omega
          have hsz := G1.out.fr.size
          obtain ⟨g3, cap3, w3, hap, HO3, HF3⟩ := push_row 23 39 4 72 _ Tryd.underlying23 Tryd.info39 rfl (by decide) (by decide) (O1.out.alloc (.cells #[.int .i64 t.1.1, .string t.1.2.1, .slice aoa t.1.2.2.length capa, .slice aob t.2.length capb] 39)) [.int .i64 t.1.1, .string t.1.2.1, .slice aoa t.1.2.2.length capa, .slice aob t.2.length capb] rfl (by simp [Value.oneCell']) (by omega) (by simp; omega)
          have hap' : ∀ ty, (Builtin.append_ #[23, 23] ty #[.slice ao zs.length cap, .slice (some ⟨w1.heap.size + 1, 0, none⟩) 1 1]).run Tryd.prog ((w1.alloc (.cells #[.int .i64 t.1.1, .string t.1.2.1, .slice aoa t.1.2.2.length capa, .slice aob t.2.length capb] 39)).alloc (.cells #[.int .i64 t.1.1, .string t.1.2.1, .slice aoa t.1.2.2.length capa, .slice aob t.2.length capb] 39)) = .ok (.slice (some ⟨g3, 0, none⟩) (zs.length + 1) cap3) w3 := fun ty => by
            have := hap ty
            simpa using this
          have G3 : Hid (Gg w0 r v L b' w3) := (G1.out.alloc _).grow H.out HF3.out fun k hk => (O1.out.lt k hk).1
          have O1a := O1.out.alloc (.cells #[.int .i64 t.1.1, .string t.1.2.1, .slice aoa t.1.2.2.length capa, .slice aob t.2.length capb] 39)
          have Z3 : Hid (∀ z ∈ zs ++ [(t, Value.slice aoa t.1.2.2.length capa, Value.slice aob t.2.length capb)], isTs w3 z.1.1.2.2 z.2.1 ∧ isLs w3 z.1.2 z.2.2) := fun z hz => ⟨isTs_grow (isTs_below (Z1.out z hz).1 (Lx.below_box w1 _)) O1a (by decide) HF3.out, isLs_grow (isLs_below (Z1.out z hz).2 (Lx.below_box w1 _)) O1a (by decide) (by decide) HF3.out⟩
          have hrow : Hid (w3.ownsRow w0.heap.size 39 4 (.slice (some ⟨g3, 0, none⟩) (zs.length + 1) cap3) (zs.length + 1) (cellsRz (zs ++ [(t, Value.slice aoa t.1.2.2.length capa, Value.slice aob t.2.length capb)]))) := by
            rw [cellsRz_snoc]
            exact HO3.out
          have HE' : Hid (progL 30 L = joinP ((zs ++ [(t, Value.slice aoa t.1.2.2.length capa, Value.slice aob t.2.length capb)]).map (·.1)) (progL (30 - (zs ++ [(t, Value.slice aoa t.1.2.2.length capa, Value.slice aob t.2.length capb)]).length) (L.drop b'))) := by
            obtain ⟨m, hm⟩ : ∃ m, 30 - zs.length = m + 1 := ⟨30 - zs.length - 1, by omega⟩
            have hm2 : 30 - (zs ++ [(t, Value.slice aoa t.1.2.2.length capa, Value.slice aob t.2.length capb)]).length = m := by simp; omega
            rw [HE.out, hm, hm2, progL_more hne hR.out, joinP_joinP, List.map_append]
            rfl
          clear HE hR O1 O1a G1 hap HO3 HF3 Z1
          go_wp2_with (at_builtin; refine wpList_append_run _ rfl (.tmp 31) (.tmp 33) 23 23 rfl _ _ rfl rfl (hap' _) ?_)
          go_roundw
          case rel =>
            refine ⟨zs ++ [(t, Value.slice aoa t.1.2.2.length capa, Value.slice aob t.2.length capb)], b', by simp; omega, ?_, Z3, G3, HE'⟩
            show World.ownsRow _ _ _ _ _ _ _
            rw [List.length_append]
            exact hrow.out
          case measure => simp [lenOf]; omega
end Go.Proofs.YtcfhpodpkficaaaDoor.Sy
namespace Go.Proofs.YtcfhpodpkficaaaDoor.Sy
open Go.RowKit
open Lx (Wd tx)
open Vl (Tm Fr prt factS Fm Pow10)

def signS (k : Int) : ByteArray := if k = 3 then ⟨#[61]⟩ else if k = 4 then ⟨#[33, 61]⟩ else if k = 5 then ⟨#[60]⟩ else if k = 6 then ⟨#[60, 61]⟩ else ⟨#[]⟩

set_option maxRecDepth 10000 in
set_option maxHeartbeats 2000000 in
theorem signOf_any (k : Int) (w : World) (h : Tb w) :
    Calls Tryd.prog 25 #[.int .i64 k] w fun e w' => e = .returned (.string (signS k)) ∧ Below w.heap.size w w' := by
  obtain ⟨c0, c1, c2, c3, c4, c5, c6, c7⟩ := h.cells
  have i0 := ix0
  have i1 := ix1
  have i2 := ix2
  have i3 := ix3
  clear h
  by_cases h0 : k = 3
  · have hk : signS k = ⟨#[61]⟩ := by rw [h0]; rfl
    rw [hk]
    have e0 : ((3 : Int) == k) = true := by simp; omega
    clear h0 hk
    go_enter Tryd.func25, Tryd.ntmps25
    go_wp2_with fail
    clear c0 c1 c2 c3 c4 c5 c6 c7
    refine wp_loop_rounds 5 ?_
    rw [rounds_succ]
    go_wp2_with fail
    go_ret
    exact ⟨rfl, below1 w _⟩
  by_cases h1 : k = 4
  · have hk : signS k = ⟨#[33, 61]⟩ := by rw [h1]; rfl
    rw [hk]
    have e0 : ((3 : Int) == k) = false := by simp; omega
    have e1 : ((4 : Int) == k) = true := by simp; omega
    clear h0 h1 hk
    go_enter Tryd.func25, Tryd.ntmps25
    go_wp2_with fail
    clear c0 c1 c2 c3 c4 c5 c6 c7
    refine wp_loop_rounds 5 ?_
    rw [rounds_succ]
    go_wp2_with fail
    rw [rounds_succ]
    go_wp2_with fail
    go_ret
    exact ⟨rfl, below2 w _ _⟩
  by_cases h2 : k = 5
  · have hk : signS k = ⟨#[60]⟩ := by rw [h2]; rfl
    rw [hk]
    have e0 : ((3 : Int) == k) = false := by simp; omega
    have e1 : ((4 : Int) == k) = false := by simp; omega
    have e2 : ((5 : Int) == k) = true := by simp; omega
    clear h0 h1 h2 hk
    go_enter Tryd.func25, Tryd.ntmps25
    go_wp2_with fail
    clear c0 c1 c2 c3 c4 c5 c6 c7
    refine wp_loop_rounds 5 ?_
    rw [rounds_succ]
    go_wp2_with fail
    rw [rounds_succ]
    go_wp2_with fail
    rw [rounds_succ]
    go_wp2_with fail
    go_ret
    exact ⟨rfl, below3 w _ _ _⟩
  by_cases h3 : k = 6
  · have hk : signS k = ⟨#[60, 61]⟩ := by rw [h3]; rfl
    rw [hk]
    have e0 : ((3 : Int) == k) = false := by simp; omega
    have e1 : ((4 : Int) == k) = false := by simp; omega
    have e2 : ((5 : Int) == k) = false := by simp; omega
    have e3 : ((6 : Int) == k) = true := by simp; omega
    clear h0 h1 h2 h3 hk
    go_enter Tryd.func25, Tryd.ntmps25
    go_wp2_with fail
    clear c0 c1 c2 c3 c4 c5 c6 c7
    refine wp_loop_rounds 5 ?_
    rw [rounds_succ]
    go_wp2_with fail
    rw [rounds_succ]
    go_wp2_with fail
    rw [rounds_succ]
    go_wp2_with fail
    rw [rounds_succ]
    go_wp2_with fail
    go_ret
    exact ⟨rfl, below4 w _ _ _ _⟩
  have hk : signS k = ⟨#[]⟩ := by simp [signS, h0, h1, h2, h3]
  rw [hk]
  have e0 : ((3 : Int) == k) = false := by simp; omega
  have e1 : ((4 : Int) == k) = false := by simp; omega
  have e2 : ((5 : Int) == k) = false := by simp; omega
  have e3 : ((6 : Int) == k) = false := by simp; omega
  clear h0 h1 h2 h3 hk
  go_enter Tryd.func25, Tryd.ntmps25
  go_wp2_with fail
  clear c0 c1 c2 c3 c4 c5 c6 c7
  refine wp_loop_rounds 5 ?_
  rw [rounds_succ]
  go_wp2_with fail
  rw [rounds_succ]
  go_wp2_with fail
  rw [rounds_succ]
  go_wp2_with fail
  rw [rounds_succ]
  go_wp2_with fail
  rw [rounds_succ]
  go_wp2_with fail
  go_ret
  exact ⟨rfl, below4 w _ _ _ _⟩

theorem ts_of {w : World} {v : Value} {D : List Tm} (h : isTs w D v) : Vl.Ts w v D := by
  rcases Vl.own_shape h with ⟨rfl, h0⟩ | ⟨g, cap, rfl, h1, _⟩
  · exact ⟨none, 0, by rw [h0], by omega, fun hp => by omega⟩
  · refine ⟨_, cap, rfl, h1, fun hp => ⟨g, 0, rfl, fun i hi => ?_⟩⟩
    have hc := Vl.cellsT_get D i hi
    rw [Nat.zero_add]
    exact ⟨(h.cellAt _ (by omega)).trans hc.1, (h.cellAt _ (by omega)).trans hc.2.1, (h.cellAt _ (by omega)).trans hc.2.2⟩

/-- A term that was read. -/
def OkT (t : Tm) : Prop := (t.1 = 3 → -2147483648 ≤ t.2.2 ∧ t.2.2 ≤ 2147483648) ∧ t.2.1.size ≤ 16
theorem prt_small {t : Tm} (h : OkT t) : (prt t).size ≤ 100 := by
  unfold Vl.prt
  split
  · rename_i h3
    have hb := h.1 h3
    by_cases hz : t.2.2 = 0
    · rw [hz, Vl.size_list]
      simp [Lib.itoa, Lib.decDigits]
    · have hd := Vl.dg_len 20 t.2.2.natAbs (by omega)
      rw [Vl.size_list]
      show (Lib.itoa t.2.2).length ≤ 100
      rw [Vl.itoa_dg _ hz]
      split
      · rw [List.length_cons]; omega
      · omega
  · have := h.2
    omega

theorem termText_any {w : World} {v : Value} {D : List Tm} (h : isTs w D v) (i : Nat) (hi : i < D.length) (hf : D[i].1 = 3 → Fm w D[i].2.2) (hl : D.length ≤ 1000) :
    Calls Tryd.prog 26 #[v, .int .i64 (i : Int)] w fun e w' => e = .returned (.string (prt D[i])) ∧ Below w.heap.size w w' := by
  have HP := hide (Vl.print_any D[i] w hf)
  obtain ⟨ao, cap, rfl, _, hc⟩ := ts_of h
  obtain ⟨g, off, rfl, hc2⟩ := hc (by omega)
  obtain ⟨c0, c1, c2⟩ := hc2 i hi
  have hlt : (i : Int) < (D.length : Int) := by omega
  clear hc hc2 hf h
  generalize D[i] = t at *
  go_enter Tryd.func26, Tryd.ntmps26
  go_wp2_with fail
  refine Calls.mono HP.out ?_
  rintro e w1 ⟨rfl, hb⟩
  go_wp2_with fail
  go_ret
  exact ⟨rfl, hb⟩

/-- A literal that was read. -/
structure OkL (l : Lit) : Prop where
  name : l.2.1.size ≤ 16
  few : l.2.2.length ≤ 4
  terms : ∀ t ∈ l.2.2, OkT t
  kind : 1 ≤ l.1 ∧ l.1 ≤ 6
  two : 3 ≤ l.1 → l.2.2.length = 2
def litS (l : Lit) : ByteArray :=
  if 3 ≤ l.1 then prt (l.2.2.getD 0 (0, ⟨#[]⟩, 0)) ++ ⟨#[32]⟩ ++ signS l.1 ++ ⟨#[32]⟩ ++ prt (l.2.2.getD 1 (0, ⟨#[]⟩, 0))
  else if l.1 = 2 then ⟨#[33]⟩ ++ factS l.2.1 l.2.2 else factS l.2.1 l.2.2
theorem fact_small (l : Lit) (h : OkL l) : (factS l.2.1 l.2.2).size ≤ 5000 := by
  have h1 := Vl.join_len l.2.2 (fun t ht => by have := prt_small (h.terms t ht); omega)
  have h2 := h.name
  have h3 := h.few
  rw [Vl.size_list]
  show (Vl.factL l.2.1 l.2.2).length ≤ _
  rw [Vl.size_list] at h2
  unfold Vl.factL
  split
  · omega
  · simp only [List.length_append, List.length_cons, List.length_nil]
    omega

theorem sign_small (k : Int) : (signS k).size ≤ 2 := by
  unfold signS
  repeat' split
  all_goals decide
theorem sign_some {k : Int} (h : 3 ≤ k) (h6 : k ≤ 6) : ((signS k).toList == []) = false := by
  have : k = 3 ∨ k = 4 ∨ k = 5 ∨ k = 6 := by omega
  rcases this with rfl | rfl | rfl | rfl <;> simp [signS, Lib.toList_data]
theorem sign_none {k : Int} (h : ¬ 3 ≤ k) : ((signS k).toList == []) = true := by
  simp [signS, show ¬ k = 3 by omega, show ¬ k = 4 by omega, show ¬ k = 5 by omega, show ¬ k = 6 by omega, Lib.toList_data]

set_option maxRecDepth 10000 in
set_option maxHeartbeats 4000000 in
theorem literalText_any {w : World} {l : Lit} {va : Value} (h : isTs w l.2.2 va) (hl : OkL l) (hT : Tb w) (hp : Pow10 w) :
    Calls Tryd.prog 14 #[.agg #[.int .i64 l.1, .string l.2.1, va]] w fun e w' => e = .returned (.string (litS l)) ∧ Below w.heap.size w w' := by
  have HSg : Hid (∀ o, Calls Tryd.prog 25 #[.int .i64 l.1] (w.alloc o) fun e w' => e = .returned (.string (signS l.1)) ∧ Below (w.alloc o).heap.size (w.alloc o) w') := fun o => signOf_any l.1 _ (hT.below (Lx.below_box w o))
  have HFm : ∀ t ∈ l.2.2, t.1 = 3 → ∀ W, Below w.heap.size w W → Fm W t.2.2 := fun t ht h3 W hb => .inr ⟨hp.below hb, (hl.terms t ht).1 h3⟩
  have hss := sign_small l.1
  obtain ⟨_, ao, cap, rfl⟩ := own_len h
  by_cases h3 : 3 ≤ l.1
  · have hsg := sign_some h3 hl.kind.2
    have h2 := hl.two h3
    have e : litS l = prt (l.2.2[0]'(by omega)) ++ ⟨#[32]⟩ ++ signS l.1 ++ ⟨#[32]⟩ ++ prt (l.2.2[1]'(by omega)) := by
      rw [litS, if_pos h3]
      simp [List.getD, List.getElem?_eq_getElem (show 0 < l.2.2.length by omega), List.getElem?_eq_getElem (show 1 < l.2.2.length by omega)]
    have HP : Hid (∀ (W : World) (j : Int), Below w.heap.size w W → (j = 0 ∨ j = 1) → Calls Tryd.prog 26 #[.slice ao l.2.2.length cap, .int .i64 j] W fun e w' => e = .returned (.string (if j = 0 then prt (l.2.2[0]'(by omega)) else prt (l.2.2[1]'(by omega)))) ∧ Below W.heap.size W w') := fun W j hb hj => by
      rcases hj with rfl | rfl
      · exact termText_any (isTs_below h hb) 0 (by omega) (fun h3 => HFm _ (List.getElem_mem _) h3 W hb) (by omega)
      · exact termText_any (isTs_below h hb) 1 (by omega) (fun h3 => HFm _ (List.getElem_mem _) h3 W hb) (by omega)
    have p0 := prt_small (hl.terms _ (List.getElem_mem (show 0 < l.2.2.length by omega)))
    have p1 := prt_small (hl.terms _ (List.getElem_mem (show 1 < l.2.2.length by omega)))
    rw [e]
    clear e HFm hp hT h hl
    generalize prt (l.2.2[0]'_) = P0 at *
    generalize prt (l.2.2[1]'_) = P1 at *
    generalize signS l.1 = S at *
    clear h2
    go_enter Tryd.func14, Tryd.ntmps14
    go_wp2_with fail
    refine Calls.mono (HSg.out _) ?_
    rintro e w1 ⟨rfl, hb1⟩
    have hB1 : Bx w1 w.heap.size 36 #[.int .i64 l.1, .string l.2.1, .slice ao l.2.2.length cap] := (Bx.new w _ _).below hb1
    have HB1 := hide ((Lx.below_box w _).trans (hb1.mono (by simp)))
    obtain ⟨⟨c0, c1, c2⟩, _, _, _⟩ := hB1.three
    have HBb := hide hB1
    have HB2 : Hid (∀ W, Below w1.heap.size w1 W → Calls Tryd.prog 26 #[.slice ao l.2.2.length cap, .int .i64 1] W fun e w' => e = .returned (.string P1) ∧ w'.cell? ⟨w.heap.size, 2, none⟩ = some (.slice ao l.2.2.length cap) ∧ Below w.heap.size w w') := fun W hb => (HP.out W 1 (HB1.out.trans (hb.mono HB1.out.size)) (Or.inr rfl)).mono fun e w' ⟨he, hb2⟩ => ⟨he, ((HBb.out.below (hb.trans (hb2.mono hb.size)))).three.1.2.2, (HB1.out.trans (hb.mono HB1.out.size)).trans (hb2.mono (Nat.le_trans HB1.out.size hb.size))⟩
    have hd1 : Below w1.heap.size w1 w1.drew := (Below.refl _ _).drew
    have HP1 : Hid (Calls Tryd.prog 26 #[.slice ao l.2.2.length cap, .int .i64 0] w1.drew fun e w' => e = .returned (.string P0) ∧ w'.cell? ⟨w.heap.size, 2, none⟩ = some (.slice ao l.2.2.length cap) ∧ Hid (Calls Tryd.prog 26 #[.slice ao l.2.2.length cap, .int .i64 1] w' fun e w'' => e = .returned (.string P1) ∧ w''.cell? ⟨w.heap.size, 2, none⟩ = some (.slice ao l.2.2.length cap) ∧ Below w.heap.size w w'')) := (HP.out w1.drew 0 (HB1.out.trans (hd1.mono HB1.out.size)) (Or.inl rfl)).mono fun e w' ⟨he, hb2⟩ => ⟨he, ((HBb.out.below (hd1.trans (hb2.mono hd1.size)))).three.1.2.2, HB2.out _ (hd1.trans (hb2.mono hd1.size))⟩
    clear hd1 hb1 HSg HP HB2 HB1 HBb
    go_wp2_with fail
    go_region_held (fun w' => w'.cell? ⟨w.heap.size, 2, none⟩ = some (.slice ao l.2.2.length cap)) (first | exact c2 | exact m0)
      (first
        | (go_at_call 26; refine Calls.mono m1.out ?_; rintro e w2 ⟨rfl, m0, m2⟩)
        | (go_at_call 26; refine Calls.mono HP1.out ?_; rintro e w2 ⟨rfl, m0, m1⟩))
    all_goals go_wp2_with fail
    all_goals go_ret
    all_goals exact ⟨rfl, m2⟩
  · have hsg := sign_none h3
    have HF : Hid (∀ W, Below w.heap.size w W → Calls Tryd.prog 27 #[.agg #[.string l.2.1, .slice ao l.2.2.length cap]] W fun e w' => e = .returned (.string (factS l.2.1 l.2.2)) ∧ Below W.heap.size W w') := fun W hb =>
      Vl.fact_any l.2.1 _ l.2.2 W (ts_of (isTs_below h hb)) (by have := hl.few; omega) (by have := hl.name; omega) (fun t ht => by have := prt_small (hl.terms t ht); omega) (fun t ht h3 => HFm t ht h3 W hb)
    have hsf := fact_small l hl
    have e : litS l = if l.1 = 2 then ⟨#[33]⟩ ++ factS l.2.1 l.2.2 else factS l.2.1 l.2.2 := by rw [litS, if_neg h3]
    have hk := hl.kind
    rw [e]
    clear e HFm hp hT h hl
    generalize factS l.2.1 l.2.2 = P0 at *
    generalize signS l.1 = S at *
    go_enter Tryd.func14, Tryd.ntmps14
    go_wp2_with fail
    refine Calls.mono (HSg.out _) ?_
    rintro e w1 ⟨rfl, hb1⟩
    have hB1 : Bx w1 w.heap.size 36 #[.int .i64 l.1, .string l.2.1, .slice ao l.2.2.length cap] := (Bx.new w _ _).below hb1
    have HB1 := hide ((Lx.below_box w _).trans (hb1.mono (by simp)))
    obtain ⟨⟨c0, c1, c2⟩, _, _, _⟩ := hB1.three
    have HBb := hide hB1
    have HF1 := hide (HF.out w1 HB1.out)
    clear hB1 hb1 HSg HF
    go_wp2_with fail
    refine Calls.mono HF1.out ?_
    rintro e w2 ⟨rfl, hb2⟩
    have d0 := (HBb.out.below hb2).three.1.1
    have HB2 := hide (HB1.out.trans (hb2.mono HB1.out.size))
    clear c0 c1 c2 HF1 hb2 HB1 HBb
    by_cases h2 : l.1 = 2
    · have g2 : (l.1 == 2) = true := by simpa using h2
      go_wp2_with fail
      go_ret
      first
        | exact ⟨rfl, HB2.out⟩
        | (rw [if_pos h2]; exact ⟨rfl, HB2.out⟩)
    · have g2 : (l.1 == 2) = false := by simpa using h2
      go_wp2_with fail
      go_ret
      first
        | exact ⟨rfl, HB2.out⟩
        | (rw [if_neg h2]; exact ⟨rfl, HB2.out⟩)

end Go.Proofs.YtcfhpodpkficaaaDoor.Sy

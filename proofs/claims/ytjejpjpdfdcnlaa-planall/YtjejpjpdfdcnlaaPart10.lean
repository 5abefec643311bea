/- The reference's Program: what holds ahead of each round of its two loops. The walk of the reference's Program. Which rules are safe, in plain mathematics; the iterator over the variables of terms: its contract. The walk of boundBy. The walk of allIn. -/
import Derived.Test.YtjejpjpdfdcnlaaPart09
import Derived.Test.YtjejpjpdfdcnlaaPart08
import Derived.Deep.CutBlock
import Derived.RangeFuncNested
import Derived.RangeFuncBound
import Derived.RangeFuncCalls
import Derived.RangeFuncLeaves
import Derived.Shelf.Abstract
import Derived.Shelf.RegionOpen
import Derived.WalkKit
import Derived.OwnWalkIn
import Derived.TacticsInMore
import Derived.LoopNIn
import Derived.LoopIn
import Derived.Maps.OwnIn
import Derived.Maps.OwnSet
import Derived.StringKeys
namespace Go.Proofs.Ytjejpjpdfdcnlaa.Rp
open Go.RowKit
open Lx (Wd tx cellsW wpList_append_run)
open Vl (Tm Fr)
open Sy

/-- The loop over a body's literals: what holds ahead of each round, seen from the world behind the head. -/
structure Lb (W1 : World) (r : Nat) (v : Value) (L : List Wd) (ab : Nat) (k : Int) (nm : ByteArray) (va : Value) (W : World) (a e : Nat) (yb : Value) (nb : Nat) (xb : List Value) : Prop where
  pw : Pw W1 r v L a e W
  rul : Bx W W1.heap.size 30 #[.int .i64 k, .string nm, va, yb]
  row : W.ownsRow W1.heap.size 27 3 yb nb xb
  few : nb ≤ 7
  le : a ≤ L.length + 1
  st : (e = 0 ∧ ab ≤ a ∧ a ≤ L.length ∧ nb ≤ 6 ∧ ∃ zb : List (Sy.Lit × Value), nb = zb.length ∧ xb = cellsLz zb ∧ (∀ z ∈ zb, isTs W z.1.2.2 z.2) ∧ listL litL 6 (L.drop ab) = joinR (zb.map (·.1)) (listL litL (6 - zb.length) (L.drop a))) ∨ (∃ c, e = codeN c ∧ listL litL 6 (L.drop ab) = .error c)

/-- One literal more: the append, and the store of the row into the rule. -/
theorem Lb_push {W1 : World} {r : Nat} {v : Value} {L : List Wd} {k : Int} {nm : ByteArray} {va : Value} {W : World} {a0 e0 a e : Nat} {y : Value} {n : Nat} {xs : List Value} (h0 : Pd W1 r v L a0 e0)
    (pw : Pw W1 r v L a e W) (rul : Bx W W1.heap.size 30 #[.int .i64 k, .string nm, va, y]) (row : W.ownsRow W1.heap.size 27 3 y n xs) (hn : n ≤ 6) (k' : Int) (nm' : ByteArray) (ao' : Option Addr) (m' cap' : Nat) :
    ∃ g cap w3, (∀ ty, (Builtin.append_ #[28, 28] ty #[y, .slice (some ⟨W.heap.size, 0, none⟩) 1 1]).run Try.prog (W.alloc (.cells #[.int .i64 k', .string nm', .slice ao' m' cap'] 27)) = .ok (.slice (some ⟨g, 0, none⟩) (n + 1) cap) w3) ∧
      (w3.cell? ⟨W1.heap.size, 3, none⟩ = some y ∧ w3.frozen? ⟨W1.heap.size, 3, none⟩ = false) ∧
      Hid (Pw W1 r v L a e (w3.setCell ⟨W1.heap.size, 3, none⟩ (.slice (some ⟨g, 0, none⟩) (n + 1) cap)) ∧ Bx (w3.setCell ⟨W1.heap.size, 3, none⟩ (.slice (some ⟨g, 0, none⟩) (n + 1) cap)) W1.heap.size 30 #[.int .i64 k, .string nm, va, .slice (some ⟨g, 0, none⟩) (n + 1) cap] ∧ (w3.setCell ⟨W1.heap.size, 3, none⟩ (.slice (some ⟨g, 0, none⟩) (n + 1) cap)).ownsRow W1.heap.size 27 3 (.slice (some ⟨g, 0, none⟩) (n + 1) cap) (n + 1) (xs ++ [.int .i64 k', .string nm', .slice ao' m' cap']) ∧
        (∀ ts u, isTs W ts u → isTs (w3.setCell ⟨W1.heap.size, 3, none⟩ (.slice (some ⟨g, 0, none⟩) (n + 1) cap)) ts u)) := by
  obtain ⟨g, cap, w3, hap, HO3, HF3⟩ := push_row 28 27 3 48 _ Try.underlying28 Sy.Try.info27 rfl (by decide) (by decide) row [.int .i64 k', .string nm', .slice ao' m' cap'] rfl (by simp [Value.oneCell']) (by omega) pw.fr.size
  have hrow : ∀ j, y.ownBlock = some j → W1.heap.size ≤ j := fun j hj => (row.lt j hj).1
  have hnot : ∀ {b : Nat} {T : TypeId} {cs : Array Value}, Bx W b T cs → T ≠ 27 → ¬ y.ownBlock = some b := fun {b T cs} hb hT hk => by
    rcases row.2 with ⟨rfl, _⟩ | ⟨g', cap', cur, rfl, _, hg, _⟩
    · simp [Value.ownBlock] at hk
    · simp [Value.ownBlock] at hk
      subst hk
      have := hb.symm.trans hg
      simp only [Option.some.injEq, Obj.cells.injEq] at this
      exact hT this.2.1
  have rul3 := rul.fr HF3.out (hnot rul (by decide))
  have hlt := h0.lt
  have pw3 : Pw W1 r v L a e w3 := by
    have hf : Fr (fun k => k = r) W1 w3 := pw.fr.trans HF3.out (fun x hx hFx => absurd (hrow x hFx) (by omega))
    exact ⟨⟨pw.pd.box.fr HF3.out (fun hk => by have := hrow r hk; omega), h0.kept hf h0.row (by decide), pw.pd.len, pw.pd.near⟩, hf⟩
  refine ⟨g, cap, w3, hap, ⟨rul3.c 3, rul3.f 3⟩, pw3.put h0 W1.heap.size 3 (Nat.le_refl _) _, rul3.set 3 _, own_put HO3.out rul3 (by decide) 3 _, fun ts u hu => ?_⟩
  exact isTs_put (isTs_grow hu row (by decide) HF3.out) rul3 (by decide) 3 _

/-- What Program has behind a rule's head and body, ahead of the stop. -/
structure Lt (W1 : World) (r : Nat) (v : Value) (L : List Wd) (a0 : Nat) (W : World) (a e : Nat) (k : Int) (nm : ByteArray) (aoa : Option Addr) (ma capa : Nat) (aob : Option Addr) (mb capb : Nat) : Prop where
  pw : Pw W1 r v L a e W
  rul : Bx W W1.heap.size 30 #[.int .i64 k, .string nm, .slice aoa ma capa, .slice aob mb capb]
  le : a ≤ L.length + 1
  st : (e = 0 ∧ a0 < a ∧ a ≤ L.length ∧ ∃ (ts : List Tm) (ls : List Sy.Lit), isTs W ts (.slice aoa ma capa) ∧ isLs W ls (.slice aob mb capb) ∧ clauseL (L.drop a0) = endR (k, nm, ts) ls (L.drop a)) ∨ (∃ c, e = codeN c ∧ clauseL (L.drop a0) = .error c)

/-- The loop over the rules. -/
structure Lp (w : World) (r : Nat) (v : Value) (L : List Wd) (W : World) (a e : Nat) (y : Value) (n : Nat) (xs : List Value) : Prop where
  pw : Pw w r v L a e W
  row : W.ownsRow w.heap.size 30 4 y n xs
  few : n ≤ 31
  le : a ≤ L.length + 1
  st : (e = 0 ∧ a ≤ L.length ∧ n ≤ 30 ∧ ∃ zs : List (Rul × Value × Value), n = zs.length ∧ xs = cellsRz zs ∧ (∀ z ∈ zs, isTs W z.1.1.2.2 z.2.1 ∧ isLs W z.1.2 z.2.2) ∧ progL 30 L = joinP (zs.map (·.1)) (progL (30 - zs.length) (L.drop a))) ∨ (∃ c, e = codeN c ∧ progL 30 L = .error c)

theorem Pd.isTs {w w' : World} {r : Nat} {v : Value} {L : List Wd} {a e : Nat} (h : Pd w r v L a e) (hf : Fr (fun k => k = r) w w') {ts : List Tm} {y : Value} (ht : isTs w ts y) : isTs w' ts y := h.kept hf ht (by decide)
theorem Pd.isLs {w w' : World} {r : Nat} {v : Value} {L : List Wd} {a e : Nat} (h : Pd w r v L a e) (hf : Fr (fun k => k = r) w w') {ls : List Sy.Lit} {y : Value} (ht : isLs w ls y) : isLs w' ls y := by
  obtain ⟨zs, h1, h2, h3⟩ := ht
  exact ⟨zs, h1, h.kept hf h2 (by decide), fun z hz => h.isTs hf (h3 z hz)⟩

/-- One rule more. -/
theorem Lp_push {w : World} {r : Nat} {v : Value} {L : List Wd} {W : World} {a0 e0 a e : Nat} {y : Value} {n : Nat} {xs : List Value} (h0 : Pd w r v L a0 e0)
    (pw : Pw w r v L a e W) (row : W.ownsRow w.heap.size 30 4 y n xs) (hn : n ≤ 30) (k : Int) (nm : ByteArray) (aoa : Option Addr) (ma capa : Nat) (aob : Option Addr) (mb capb : Nat) :
    ∃ g cap w3, (∀ ty, (Builtin.append_ #[23, 23] ty #[y, .slice (some ⟨W.heap.size, 0, none⟩) 1 1]).run Try.prog (W.alloc (.cells #[.int .i64 k, .string nm, .slice aoa ma capa, .slice aob mb capb] 30)) = .ok (.slice (some ⟨g, 0, none⟩) (n + 1) cap) w3) ∧
      Hid (Pw w r v L a e w3 ∧ w3.ownsRow w.heap.size 30 4 (.slice (some ⟨g, 0, none⟩) (n + 1) cap) (n + 1) (xs ++ [.int .i64 k, .string nm, .slice aoa ma capa, .slice aob mb capb]) ∧
        (∀ ts u, isTs W ts u → isTs w3 ts u) ∧ (∀ ls u, isLs W ls u → isLs w3 ls u)) := by
  obtain ⟨g, cap, w3, hap, HO3, HF3⟩ := push_row 23 30 4 72 _ Try.underlying23 Sy.Try.info30 rfl (by decide) (by decide) row [.int .i64 k, .string nm, .slice aoa ma capa, .slice aob mb capb] rfl (by simp [Value.oneCell']) (by omega) pw.fr.size
  have hrow : ∀ j, y.ownBlock = some j → w.heap.size ≤ j := fun j hj => (row.lt j hj).1
  have hlt := h0.lt
  have pw3 : Pw w r v L a e w3 := by
    have hf : Fr (fun k => k = r) w w3 := pw.fr.trans HF3.out (fun x hx hFx => absurd (hrow x hFx) (by omega))
    exact ⟨⟨pw.pd.box.fr HF3.out (fun hk => by have := hrow r hk; omega), h0.kept hf h0.row (by decide), pw.pd.len, pw.pd.near⟩, hf⟩
  exact ⟨g, cap, w3, hap, pw3, HO3.out, fun ts u hu => isTs_grow hu row (by decide) HF3.out, fun ls u hu => isLs_grow hu row (by decide) (by decide) HF3.out⟩

theorem litL_lt {L : List Wd} {a : Nat} {x : Sy.Lit} {t : List Wd} (h : litL (L.drop a) = .ok (x, t)) : a < L.length := by
  by_cases hl : a < L.length
  · exact hl
  · rw [drop_end L a (by omega)] at h
    cases h
end Go.Proofs.Ytjejpjpdfdcnlaa.Rp
namespace Go.Proofs.Ytjejpjpdfdcnlaa.Rp
open Go.RowKit
open Lx (Wd tx cellsW wpList_append_run bs scanAt frontAt Rw)
open Vl (Tm Fr)
open Sy

/-- What Scan gives, in one form. -/
theorem scan2 (s : ByteArray) (w : World) (hs : s.size ≤ 4000) :
    Calls Try.prog 20 #[.string s] w fun e w' => ∃ (v : Value) (E : Nat), e = .returned (.tuple #[v, .int .i64 (E : Int)]) ∧ Rw 88 w w' v (frontAt (bs s) 0) ∧ ((E = 0 ∧ ¬ scanAt (bs s) 0 = none) ∨ (E = 4 ∧ scanAt (bs s) 0 = none)) := by
  refine (Lx.rscan_any s w hs).mono ?_
  rintro e w' (⟨v, L, h1, rfl, hr⟩ | ⟨h1, v, rfl, hr⟩)
  · refine ⟨v, 0, rfl, ?_, Or.inl ⟨rfl, by rw [h1]; simp⟩⟩
    rw [Lx.frontAt_of_scan h1]
    exact hr
  · exact ⟨v, 4, rfl, hr, Or.inr ⟨rfl, h1⟩⟩

/-- What atom gives, in one form. -/
theorem Lr_one {R : Re Sy.Lit} {r : Nat} {v : Value} {L : List Wd} {a : Nat} {w : World} {x : Ending} {w' : World} (h : Lr R r v L a w x w') :
    ∃ (k : Int) (nm : ByteArray) (ao : Option Addr) (m cap a' e : Nat), x = .returned (.agg #[.int .i64 k, .string nm, .slice ao m cap]) ∧ Pd w' r v L a' e ∧ a' ≤ L.length + 1 ∧
      ((e = 0 ∧ a < a' ∧ a' ≤ L.length ∧ ∃ ts, isTs w' ts (.slice ao m cap) ∧ R = .ok ((k, nm, ts), L.drop a')) ∨ (∃ c, e = codeN c ∧ R = .error c)) ∧ Fr (fun k => k = r) w w' := by
  obtain ⟨h, hf⟩ := h
  cases R with
  | error c =>
    obtain ⟨y, a', rfl, ⟨k, nm, ao, m, cap, rfl⟩, hp, hl⟩ := h
    exact ⟨k, nm, ao, m, cap, a', _, rfl, hp, hl, Or.inr ⟨c, rfl, rfl⟩, hf⟩
  | ok p =>
    obtain ⟨⟨k, nm, ts⟩, rest⟩ := p
    obtain ⟨y, a', rfl, ⟨va, rfl, hts⟩, hp, hd, h1, h2⟩ := h
    obtain ⟨_, ao, cap, rfl⟩ := own_len hts
    exact ⟨k, nm, ao, ts.length, cap, a', 0, rfl, hp, by omega, Or.inl ⟨rfl, h1, h2, ts, hts, by rw [hd]⟩, hf⟩

theorem clause_err {L : List Wd} {a : Nat} {c : Bool} (h : atomL termW (L.drop a) = .error c) : clauseL (L.drop a) = .error c := by rw [clauseL_eq, h]
theorem clause_bare {L : List Wd} {a a' : Nat} {l : Sy.Lit} (hL : ∀ x ∈ L, OkW x) (h : atomL termW (L.drop a) = .ok (l, L.drop a')) (hs : signB [58, 45] (L.drop a') = false) : clauseL (L.drop a) = endR l [] (L.drop a') := by
  rw [sign_take hL a' [58, 45] (by decide) rfl] at hs
  rw [clauseL_eq, h]
  simp only []
  rw [if_neg (by rw [hs]; decide), takeR, if_neg (by rw [hs]; decide)]
theorem clause_body {L : List Wd} {a a' : Nat} {l : Sy.Lit} (hL : ∀ x ∈ L, OkW x) (h : atomL termW (L.drop a) = .ok (l, L.drop a')) (hs : signB [58, 45] (L.drop a') = true) : clauseL (L.drop a) = bodyR l (listL litL 6 (L.drop (a' + 1))) := by
  rw [sign_take hL a' [58, 45] (by decide) rfl] at hs
  rw [clauseL_eq, h]
  simp only []
  rw [if_pos hs, takeR, if_pos hs, drop_tail]

set_option maxRecDepth 10000 in
set_option maxHeartbeats 20000000 in
theorem rprogram_any (s : ByteArray) (w : World) (hs : s.size ≤ 4000) :
    Calls Try.prog 8 #[.string s] w fun e w' => Pg (progL 30 (wordsL (bs s))) w e w' := by
  have HSc := hide (scan2 s w hs)
  have hfo := front_ok _ ((bs s).drop 0) 0 (Nat.le_refl _)
  have HL : Hid (∀ x ∈ frontAt (bs s) 0, OkW x) := hfo.1
  have hlen : (frontAt (bs s) 0).length ≤ 4000 := by
    have h1 : (frontAt (bs s) 0).length ≤ ((bs s).drop 0).length := hfo.2
    rw [List.length_drop, Lx.bs_length] at h1
    omega
  have HPF := hide (prog_front (bs s) 30)
  clear hfo
  obtain ⟨R0, hR0⟩ : ∃ R0, progL 30 (wordsL (bs s)) = R0 := ⟨_, rfl⟩
  rw [hR0] at HPF ⊢
  clear hR0
  obtain ⟨L, hL⟩ : ∃ L, frontAt (bs s) 0 = L := ⟨_, rfl⟩
  rw [hL] at HSc HL hlen HPF
  clear hL
  go_enter Try.func8, Try.ntmps8
  go_wp2_with fail
  refine Calls.mono HSc.out ?_
  rintro e w1 ⟨v, E, rfl, hrw, hE⟩
  obtain ⟨ao, cap, rfl, _⟩ := hrw.slice
  have gE : ((E : Int) == 8) = false := by rcases hE with ⟨h, _⟩ | ⟨h, _⟩ <;> subst h <;> rfl
  have HE := hide hE
  have HB1 := hide hrw.below
  have hsz1 := hrw.below.size
  have hPd : Pd (w1.alloc (.cells #[.slice ao L.length cap, .int .i64 0, .int .i64 0] 65)) w1.heap.size (.slice ao L.length cap) L 0 0 :=
    ⟨Bx.new w1 _ _, Vl.own_zero (hrw.row.alloc _), by omega, by omega⟩
  have HP := hide hPd
  have HBW : Hid (Below w.heap.size w (w1.alloc (.cells #[.slice ao L.length cap, .int .i64 0, .int .i64 0] 65))) := hrw.below.alloc hsz1 _
  clear HSc hrw hE hPd
  go_wp2_with fail
  have hszW : w1.heap.size < (w1.alloc (.cells #[.slice ao L.length cap, .int .i64 0, .int .i64 0] 65)).heap.size := by simp
  generalize w1.alloc (.cells #[.slice ao L.length cap, .int .i64 0, .int .i64 0] 65) = W0 at *
  obtain ⟨r, hr⟩ : ∃ r, w1.heap.size = r := ⟨_, rfl⟩
  rw [hr] at HP hszW ⊢
  have HRr : Hid (w.heap.size ≤ r) := by rw [← hr]; exact hsz1
  clear hr HB1 hsz1
  have LO : Hid (Lp W0 r (.slice ao L.length cap) L W0 0 0 (.slice none 0 0) 0 []) :=
    ⟨Pw.refl HP.out, ⟨by simp, .inl ⟨rfl, rfl⟩⟩, by omega, by omega, Or.inl ⟨rfl, by omega, by omega, [], rfl, rfl, by simp, (joinP_nil _).symm⟩⟩
  go_loopw [7] (fun y wr => ∃ a e n xs, Hid (Lp W0 r (.slice ao L.length cap) L wr a e y n xs)) (fun _ wr => ms r L.length wr)
  case atStart => exact ⟨_, _, _, _, LO⟩
  case round =>
    obtain ⟨a, e, n, xs, HO⟩ := hrel
    clear LO
    obtain ⟨⟨c0, c1, c2⟩, f0, f1, f2⟩ := HO.out.pw.pd.box.three
    obtain ⟨_, aoy, capy, rfl⟩ := own_len HO.out.row
    rcases HO.out.st with ⟨rfl, haL, hn30, HST⟩ | ⟨c, he, hRc⟩
    · have HST := hide HST
      by_cases hlt : a < L.length
      · have hltI : (a : Int) < (L.length : Int) := by omega
        have hms : Hid (ms r L.length wr = L.length + 3 - a) := ms_ok HO.out.pw.pd
        go_wp2_with fail
        go_big_quiet (fail)
        have P6 := hide (HO.out.pw.below (Sy.below_drewN wr nq))
        have O6 := hide (Lx.own_below HO.out.row (Sy.below_drewN wr nq))
        have M6 : Hid (∃ zs : List (Rul × Value × Value), n = zs.length ∧ xs = cellsRz zs ∧ (∀ z ∈ zs, isTs (wr.drewN nq) z.1.1.2.2 z.2.1 ∧ isLs (wr.drewN nq) z.1.2 z.2.2) ∧ progL 30 L = joinP (zs.map (·.1)) (progL (30 - zs.length) (L.drop a))) := by
          obtain ⟨zs, h1, h2, h3, h4⟩ := HST.out
          exact ⟨zs, h1, h2, fun z hz => ⟨isTs_below (h3 z hz).1 (Sy.below_drewN _ _), isLs_below (h3 z hz).2 (Sy.below_drewN _ _)⟩, h4⟩
        clear HO HST c0 c1 c2 f0 f1 f2
        generalize wr.drewN nq = W6 at *
        have HT := hide (atom_any P6.out.pd HL.out haL)
        obtain ⟨R, hR⟩ : ∃ R, Hid (atomL termW (L.drop a) = R) := ⟨_, rfl⟩
        rw [hR.out] at HT
        go_wp2_with fail
        refine Calls.mono HT.out ?_
        intro z w2 hz
        obtain ⟨k, nm, aoa, ma, capa, a2, e2, rfl, hp2, hle2, hst2, hf2⟩ := Lr_one hz
        have P2 := hide (P6.out.then hp2 hf2)
        have O2 := hide (P6.out.pd.kept hf2 O6.out (by decide))
        have M2 : Hid (∃ zs : List (Rul × Value × Value), n = zs.length ∧ xs = cellsRz zs ∧ (∀ z ∈ zs, isTs w2 z.1.1.2.2 z.2.1 ∧ isLs w2 z.1.2 z.2.2) ∧ progL 30 L = joinP (zs.map (·.1)) (progL (30 - zs.length) (L.drop a))) := by
          obtain ⟨zs, h1, h2, h3, h4⟩ := M6.out
          exact ⟨zs, h1, h2, fun z hz => ⟨P6.out.pd.isTs hf2 (h3 z hz).1, P6.out.pd.isLs hf2 (h3 z hz).2⟩, h4⟩
        have H2 := hide hp2
        have HS2 := hide hst2
        have hr2 : r < w2.heap.size := hp2.lt
        clear HT hz hp2 hst2 hf2 P6 O6 M6
        have P3 := hide ((Pw.refl H2.out).alloc (.cells #[.int .i64 k, .string nm, .slice aoa ma capa, .slice none 0 0] 30))
        have B3 := hide (Bx.new w2 #[.int .i64 k, .string nm, .slice aoa ma capa, .slice none 0 0] 30)
        have HS := hide (sign_any P3.out.pd [58, 45])
        have c2 := P3.out.pd.box.three.1.2.2
        go_upto_region 8 with fail
        obtain ⟨b, hb⟩ : ∃ b, Hid (b = (signB [58, 45] (L.drop a2) && decide (e2 = 0))) := ⟨_, rfl⟩
        generalize w2.alloc (.cells #[.int .i64 k, .string nm, .slice aoa ma capa, .slice none 0 0] 30) = W3 at *
        go_cut [49] from 21 to 110 (fun s wc => s = .bool b ∧ ∃ n, wc = W3.drewN n)
        case first =>
          go_wp2_with fail
          refine Calls.mono HS.out ?_
          rintro z3 w3 ⟨rfl, n3, rfl⟩
          cases hsg : signB [58, 45] (L.drop a2)
          · go_wp2_with fail
            go_meet
            exact ⟨by rw [hb.out, hsg]; rfl, _, rfl⟩
          · by_cases he0 : e2 = 0
            · have g0 : ((e2 : Int) == 0) = true := by simp; omega
              have HB0 : Hid (b = true) := by show _ = _; rw [hb.out, hsg]; simp [he0]
              clear he0 hb
              go_wp2_with fail
              go_meet
              exact ⟨by rw [HB0.out], _, rfl⟩
            · have g0 : ((e2 : Int) == 0) = false := by simp; omega
              have HB0 : Hid (b = false) := by show _ = _; rw [hb.out, hsg]; simp [he0]
              clear he0 hb
              go_wp2_with fail
              go_meet
              exact ⟨by rw [HB0.out], _, rfl⟩
        case rest =>
          obtain ⟨rfl, n3, hw3⟩ := hcut
          have P4 : Hid (Pw w2 r (.slice ao L.length cap) L a2 e2 wc) := by rw [hw3]; exact P3.out.below (Sy.below_drewN _ n3)
          have B4 : Hid (Bx wc w2.heap.size 30 #[.int .i64 k, .string nm, .slice aoa ma capa, .slice none 0 0]) := by rw [hw3]; exact B3.out.below (Sy.below_drewN _ n3)
          clear hw3 P3 B3 HS c2
          go_upto_if 49 with fail
          go_cut [9] from 21 to 110 (fun s9 wd => ∃ a5 e5 aob mb capb, Hid (Lt w2 r (.slice ao L.length cap) L a wd a5 e5 k nm aoa ma capa aob mb capb))
          case first =>
            cases b with
            | false =>
              have LT : Hid (Lt w2 r (.slice ao L.length cap) L a wc a2 e2 k nm aoa ma capa none 0 0) := by
                refine ⟨P4.out, B4.out, hle2, ?_⟩
                rcases HS2.out with ⟨he, h1, h2, ts, hts, hR2⟩ | ⟨c, he, hR2⟩
                · refine Or.inl ⟨he, h1, h2, ts, [], H2.out.isTs P4.out.fr hts, isLs_nil _, clause_bare HL.out (hR.out.trans hR2) ?_⟩
                  have := hb.out
                  rw [he] at this
                  simpa using this.symm
                · exact Or.inr ⟨c, he, clause_err (hR.out.trans hR2)⟩
              go_wp2_with fail
              go_meet
              exact ⟨_, _, _, _, _, LT⟩
            | true =>
              obtain ⟨hsg, he0⟩ : signB [58, 45] (L.drop a2) = true ∧ e2 = 0 := by
                have := hb.out.symm
                simpa using this
              subst he0
              obtain ⟨hh1, hh2, ts, hts, hR2⟩ : a < a2 ∧ a2 ≤ L.length ∧ ∃ ts, isTs w2 ts (.slice aoa ma capa) ∧ R = .ok ((k, nm, ts), L.drop a2) := by
                rcases HS2.out with ⟨_, h1, h2, h3⟩ | ⟨c, he, _⟩
                · exact ⟨h1, h2, h3⟩
                · cases c <;> cases he
              have hl3 := sign_lt hsg
              have HCl := hide (clause_body HL.out (hR.out.trans hR2) hsg)
              have HTs := hide hts
              obtain ⟨⟨c0, c1, c2⟩, f0, f1, f2⟩ := P4.out.pd.box.three
              have hst := P4.out.pd.stepI (by omega)
              have P5 := hide (P4.out.then hst.1 hst.2)
              have B5 := hide (B4.out.fr hst.2 (by omega))
              have LB : Hid (Lb w2 r (.slice ao L.length cap) L (a2 + 1) k nm (.slice aoa ma capa) (wc.setCell ⟨r, 1, none⟩ (.int .i64 ((a2 : Int) + 1))) (a2 + 1) 0 (.slice none 0 0) 0 []) :=
                ⟨P5.out, B5.out, ⟨by simp, .inl ⟨rfl, rfl⟩⟩, by omega, by omega, Or.inl ⟨rfl, by omega, by omega, by omega, [], rfl, rfl, by simp, (joinR_nil _).symm⟩⟩
              clear hst P5 B5 P4 B4 hsg hts hR2 hb
              go_wp2_with fail
              go_loopw [] (fun wx => ∃ a' e' yb nb xb, Hid (Lb w2 r (.slice ao L.length cap) L (a2 + 1) k nm (.slice aoa ma capa) wx a' e' yb nb xb)) (fun wx => ms r L.length wx)
              case atStart => exact ⟨_, _, _, _, _, LB⟩
              case round =>
                obtain ⟨a', e', yb, nb, xb, HI⟩ := hrel
                clear LB c0 c1 c2 f0 f1 f2
                obtain ⟨⟨c0, c1, c2⟩, f0, f1, f2⟩ := HI.out.pw.pd.box.three
                obtain ⟨⟨d0, d1, d2, d3⟩, g0, g1, g2, g3⟩ := HI.out.rul.four
                obtain ⟨_, aob, capb, rfl⟩ := own_len HI.out.row
                rcases HI.out.st with ⟨rfl, hab, haL2, hn6, hzb⟩ | ⟨c, he5, hLc⟩
                · have hms2 : Hid (ms r L.length wr = L.length + 3 - a') := ms_ok HI.out.pw.pd
                  have hrb : ¬ w2.heap.size = r := by omega
                  have HT := hide (literal_any HI.out.pw.pd HL.out haL2)
                  obtain ⟨R2, hR3⟩ : ∃ R2, Hid (litL (L.drop a') = R2) := ⟨_, rfl⟩
                  rw [hR3.out] at HT
                  go_wp2_with fail
                  refine Calls.mono HT.out ?_
                  intro z6 w6 hz6
                  obtain ⟨k6, nm6, ao6, m6, cap6, a6, e6, rfl, hp6, hle6, hst6, hf6⟩ := Lr_one hz6
                  have P6 := hide (HI.out.pw.then hp6 hf6)
                  have B6 := hide (HI.out.rul.fr hf6 hrb)
                  have O6 := hide (HI.out.pw.pd.kept hf6 HI.out.row (by decide))
                  have Z6 : Hid (∃ zb : List (Sy.Lit × Value), nb = zb.length ∧ xb = cellsLz zb ∧ (∀ z ∈ zb, isTs w6 z.1.2.2 z.2) ∧ listL litL 6 (L.drop (a2 + 1)) = joinR (zb.map (·.1)) (listL litL (6 - zb.length) (L.drop a'))) := by
                    obtain ⟨zb, h1, h2, h3, h4⟩ := hzb
                    exact ⟨zb, h1, h2, fun z hz => HI.out.pw.pd.isTs hf6 (h3 z hz), h4⟩
                  have p2 := fun o => (P6.out.alloc o).pd.box.three.1.2.2
                  have l3 := fun o => (B6.out.below (Lx.below_box w6 o)).four.1.2.2.2
                  have hsz6 := P6.out.fr.size
                  clear HT hz6 hp6 hf6 HI hzb c0 c1 c2 f0 f1 f2 d0 d1 d2 d3 g0 g1 g2 g3
                  rcases hst6 with ⟨he6, h61, h62, ts6, hts6, hR4⟩ | ⟨c, he6, hR4⟩
                  · subst he6
                    have HT6 := hide hts6
                    have HR4 := hide (hR3.out.trans hR4)
                    clear hts6 hR4 hR3
                    by_cases hfull : nb = 6
                    · have gf : ((nb : Int) == 6) = true := by simp; omega
                      have HRe : Hid (listL litL 6 (L.drop (a2 + 1)) = .error true) := by
                        obtain ⟨zb, h1, h2, h3, h4⟩ := Z6.out
                        show _ = _
                        rw [h4, show 6 - zb.length = 0 by omega, listL_zero HR4.out]
                        rfl
                      have TB : Hid (Bx (w6.alloc (.cells #[.int .i64 k6, .string nm6, .slice ao6 m6 cap6] 27)) w6.heap.size 27 #[.int .i64 k6, .string nm6, .slice ao6 m6 cap6]) := Bx.new w6 _ _
                      have HB := hide (bad_any (P6.out.alloc (.cells #[.int .i64 k6, .string nm6, .slice ao6 m6 cap6] 27)).pd 8)
                      have B6' := hide (B6.out.below (Lx.below_box w6 (.cells #[.int .i64 k6, .string nm6, .slice ao6 m6 cap6] 27)))
                      have O6' := hide (O6.out.alloc (.cells #[.int .i64 k6, .string nm6, .slice ao6 m6 cap6] 27))
                      clear hfull
                      go_wp2_with fail
                      refine Calls.mono HB.out ?_
                      rintro zb wb ⟨rfl, hpb, hfb⟩
                      simp only [if_true] at hpb
                      have Pb := hide ((P6.out.alloc (.cells #[.int .i64 k6, .string nm6, .slice ao6 m6 cap6] 27)).then hpb hfb)
                      have Bb := hide (B6'.out.fr hfb hrb)
                      have Ob := hide ((P6.out.alloc (.cells #[.int .i64 k6, .string nm6, .slice ao6 m6 cap6] 27)).pd.kept hfb O6'.out (by decide))
                      obtain ⟨⟨v0, v1, v2⟩, _, _, _⟩ := (TB.out.fr hfb (by omega)).three
                      obtain ⟨g7, cap7, w7, hap, hst7, HL7⟩ := Lb_push H2.out Pb.out Bb.out Ob.out hn6 k6 nm6 ao6 m6 cap6
                      obtain ⟨s7, s8⟩ := hst7
                      have lb3 := Bb.out.four.1.2.2.2
                      clear hpb hfb HB TB Bb Ob B6' O6' l3 p2 P6 B6 O6
                      go_wp2_with (at_builtin; refine wpList_append_run _ rfl (.tmp 78) (.tmp 80) 28 28 rfl _ _ rfl rfl (hap _) ?_)
                      have HS := hide (sign_any HL7.out.1.pd [44])
                      clear hap s7 s8 lb3 v0 v1 v2
                      refine Calls.mono HS.out ?_
                      rintro z8 w8 ⟨rfl, n8, hw8⟩
                      have LB8 : Hid (Lb w2 r (.slice ao L.length cap) L (a2 + 1) k nm (.slice aoa ma capa) w8 a6 8 (.slice (some ⟨g7, 0, none⟩) (nb + 1) cap7) (nb + 1) (xb ++ [.int .i64 k6, .string nm6, .slice ao6 m6 cap6])) := by
                        rw [hw8]
                        have hb := Sy.below_drewN (w7.setCell ⟨w2.heap.size, 3, none⟩ (.slice (some ⟨g7, 0, none⟩) (nb + 1) cap7)) n8
                        exact ⟨HL7.out.1.below hb, HL7.out.2.1.below hb, Lx.own_below HL7.out.2.2.1 hb, by omega, by omega, Or.inr ⟨true, rfl, HRe.out⟩⟩
                      clear HL7 HS hw8
                      obtain ⟨⟨c0, c1, c2⟩, f0, f1, f2⟩ := LB8.out.pw.pd.box.three
                      cases hsg : signB [44] (L.drop a6)
                      · have LT : Hid (Lt w2 r (.slice ao L.length cap) L a w8 a6 8 k nm aoa ma capa (some ⟨g7, 0, none⟩) (nb + 1) cap7) := ⟨LB8.out.pw, LB8.out.rul, LB8.out.le, Or.inr ⟨true, rfl, by rw [HCl.out, HRe.out]; rfl⟩⟩
                        go_wp2_with fail
                        go_meet
                        exact ⟨_, _, _, _, _, LT⟩
                      · have hl9 := sign_lt hsg
                        have hst := LB8.out.pw.pd.stepI (by omega)
                        have LB9 : Hid (Lb w2 r (.slice ao L.length cap) L (a2 + 1) k nm (.slice aoa ma capa) (w8.setCell ⟨r, 1, none⟩ (.int .i64 (((a6 : Nat) : Int) + 1))) (a6 + 1) 8 (.slice (some ⟨g7, 0, none⟩) (nb + 1) cap7) (nb + 1) (xb ++ [.int .i64 k6, .string nm6, .slice ao6 m6 cap6])) :=
                          ⟨LB8.out.pw.then hst.1 hst.2, LB8.out.rul.fr hst.2 hrb, LB8.out.pw.pd.kept hst.2 LB8.out.row (by decide), by omega, by omega, Or.inr ⟨true, rfl, HRe.out⟩⟩
                        clear hst
                        go_wp2_with fail
                        go_roundw
                        case rel => exact ⟨_, _, _, _, _, LB9⟩
                        case measure =>
                          refine Nat.lt_of_le_of_lt (Nat.le_of_eq (ms_err LB9.out.pw.pd (by decide))) ?_
                          rw [hms2.out]
                          omega
                    · have gf : ((nb : Int) == 6) = false := by simp; omega
                      obtain ⟨g7, cap7, w7, hap, hst7, HL7⟩ := Lb_push H2.out (P6.out.alloc (.cells #[.int .i64 k6, .string nm6, .slice ao6 m6 cap6] 27)) (B6.out.below (Lx.below_box w6 _)) (O6.out.alloc _) hn6 k6 nm6 ao6 m6 cap6
                      obtain ⟨s7, s8⟩ := hst7
                      have hap' : ∀ ty, (Builtin.append_ #[28, 28] ty #[.slice aob nb capb, .slice (some ⟨w6.heap.size + 1, 0, none⟩) 1 1]).run Try.prog ((w6.alloc (.cells #[.int .i64 k6, .string nm6, .slice ao6 m6 cap6] 27)).alloc (.cells #[.int .i64 k6, .string nm6, .slice ao6 m6 cap6] 27)) = .ok (.slice (some ⟨g7, 0, none⟩) (nb + 1) cap7) w7 := fun ty => by
                        have := hap ty
                        simpa using this
                      go_wp2_with (at_builtin; refine wpList_append_run _ rfl (.tmp 78) (.tmp 80) 28 28 rfl _ _ rfl rfl (hap' _) ?_)
                      have HS := hide (sign_any HL7.out.1.pd [44])
                      clear hap hap' l3 p2 s7 s8
                      refine Calls.mono HS.out ?_
                      rintro z8 w8 ⟨rfl, n8, hw8⟩
                      obtain ⟨P8, B8, O8, Z8⟩ : Hid (Pw w2 r (.slice ao L.length cap) L a6 0 w8) ∧ Hid (Bx w8 w2.heap.size 30 #[.int .i64 k, .string nm, .slice aoa ma capa, .slice (some ⟨g7, 0, none⟩) (nb + 1) cap7]) ∧ Hid (w8.ownsRow w2.heap.size 27 3 (.slice (some ⟨g7, 0, none⟩) (nb + 1) cap7) (nb + 1) (xb ++ [.int .i64 k6, .string nm6, .slice ao6 m6 cap6])) ∧ Hid (∀ ts u, isTs w6 ts u → isTs w8 ts u) := by
                        rw [hw8]
                        have hb := Sy.below_drewN (w7.setCell ⟨w2.heap.size, 3, none⟩ (.slice (some ⟨g7, 0, none⟩) (nb + 1) cap7)) n8
                        exact ⟨HL7.out.1.below hb, HL7.out.2.1.below hb, Lx.own_below HL7.out.2.2.1 hb, fun ts u hu => isTs_below (HL7.out.2.2.2 ts u (isTs_below hu (Lx.below_box w6 _))) hb⟩
                      clear HL7 HS hw8 P6 B6 O6
                      obtain ⟨⟨c0, c1, c2⟩, f0, f1, f2⟩ := P8.out.pd.box.three
                      have HTK := hide (sign_take HL.out a6 [44] (by decide) rfl)
                      cases hsg : signB [44] (L.drop a6)
                      · rw [hsg] at HTK
                        have LT : Hid (Lt w2 r (.slice ao L.length cap) L a w8 a6 0 k nm aoa ma capa (some ⟨g7, 0, none⟩) (nb + 1) cap7) := by
                          obtain ⟨zb, h1, h2, h3, h4⟩ := Z6.out
                          refine ⟨P8.out, B8.out, by omega, Or.inl ⟨rfl, by omega, by omega, ts, (zb ++ [((k6, nm6, ts6), Value.slice ao6 m6 cap6)]).map (·.1), H2.out.isTs P8.out.fr HTs.out, ⟨_, rfl, ?_, ?_⟩, ?_⟩⟩
                          · have e1 : (zb ++ [(((k6, nm6, ts6) : Sy.Lit), Value.slice ao6 m6 cap6)]).length = nb + 1 := by simp [h1]
                            rw [e1, cellsLz_snoc, ← h2]
                            exact Vl.own_zero O8.out
                          · intro z hz
                            rcases List.mem_append.1 hz with hz | hz
                            · exact Z8.out _ _ (h3 z hz)
                            · obtain rfl : z = ((k6, nm6, ts6), Value.slice ao6 m6 cap6) := by simpa using hz
                              exact Z8.out _ _ HT6.out
                          · obtain ⟨m, hm⟩ : ∃ m, 6 - zb.length = m + 1 := ⟨6 - zb.length - 1, by omega⟩
                            rw [HCl.out, h4, hm, listL_last HR4.out HTK.out.symm, List.map_append]
                            rfl
                        go_wp2_with fail
                        go_meet
                        exact ⟨_, _, _, _, _, LT⟩
                      · rw [hsg] at HTK
                        have hl9 := sign_lt hsg
                        have hst := P8.out.pd.stepI (by omega)
                        have LB9 : Hid (Lb w2 r (.slice ao L.length cap) L (a2 + 1) k nm (.slice aoa ma capa) (w8.setCell ⟨r, 1, none⟩ (.int .i64 (((a6 : Nat) : Int) + 1))) (a6 + 1) 0 (.slice (some ⟨g7, 0, none⟩) (nb + 1) cap7) (nb + 1) (xb ++ [.int .i64 k6, .string nm6, .slice ao6 m6 cap6])) := by
                          obtain ⟨zb, h1, h2, h3, h4⟩ := Z6.out
                          refine ⟨P8.out.then hst.1 hst.2, B8.out.fr hst.2 hrb, P8.out.pd.kept hst.2 O8.out (by decide), by omega, by omega, Or.inl ⟨rfl, by omega, by omega, by omega, zb ++ [((k6, nm6, ts6), Value.slice ao6 m6 cap6)], by simp [h1], ?_, ?_, ?_⟩⟩
                          · rw [cellsLz_snoc, h2]
                          · intro z hz
                            rcases List.mem_append.1 hz with hz | hz
                            · exact P8.out.pd.isTs hst.2 (Z8.out _ _ (h3 z hz))
                            · obtain rfl : z = ((k6, nm6, ts6), Value.slice ao6 m6 cap6) := by simpa using hz
                              exact P8.out.pd.isTs hst.2 (Z8.out _ _ HT6.out)
                          · obtain ⟨m, hm⟩ : ∃ m, 6 - zb.length = m + 1 := ⟨6 - zb.length - 1, by omega⟩
                            have hm2 : 6 - (zb ++ [(((k6, nm6, ts6) : Sy.Lit), Value.slice ao6 m6 cap6)]).length = m := by simp; omega
                            rw [h4, hm, hm2, listL_more HR4.out HTK.out.symm, joinR_joinR, takeR, if_pos HTK.out.symm, drop_tail, List.map_append]
                            rfl
                        clear hst HTK
                        go_wp2_with fail
                        go_roundw
                        case rel => exact ⟨_, _, _, _, _, LB9⟩
                        case measure =>
                          refine Nat.lt_of_le_of_lt (Nat.le_of_eq (ms_ok LB9.out.pw.pd)) ?_
                          rw [hms2.out]
                          omega
                  · have he60 : ((e6 : Int) == 0) = false := by rw [he6]; cases c <;> rfl
                    have HE6 := hide he6
                    have HRe : Hid (listL litL 6 (L.drop (a2 + 1)) = .error c) := by
                      obtain ⟨zb, h1, h2, h3, h4⟩ := Z6.out
                      show _ = _
                      rw [h4, listL_err (hR3.out.trans hR4)]
                      rfl
                    obtain ⟨g7, cap7, w7, hap, hst7, HL7⟩ := Lb_push H2.out (P6.out.alloc (.cells #[.int .i64 k6, .string nm6, .slice ao6 m6 cap6] 27)) (B6.out.below (Lx.below_box w6 _)) (O6.out.alloc _) hn6 k6 nm6 ao6 m6 cap6
                    obtain ⟨s7, s8⟩ := hst7
                    have hap' : ∀ ty, (Builtin.append_ #[28, 28] ty #[.slice aob nb capb, .slice (some ⟨w6.heap.size + 1, 0, none⟩) 1 1]).run Try.prog ((w6.alloc (.cells #[.int .i64 k6, .string nm6, .slice ao6 m6 cap6] 27)).alloc (.cells #[.int .i64 k6, .string nm6, .slice ao6 m6 cap6] 27)) = .ok (.slice (some ⟨g7, 0, none⟩) (nb + 1) cap7) w7 := fun ty => by
                      have := hap ty
                      simpa using this
                    clear he6 hR4 hR3
                    go_wp2_with (at_builtin; refine wpList_append_run _ rfl (.tmp 78) (.tmp 80) 28 28 rfl _ _ rfl rfl (hap' _) ?_)
                    have HS := hide (sign_any HL7.out.1.pd [44])
                    clear hap hap' l3 p2 s7 s8 P6 B6 O6
                    refine Calls.mono HS.out ?_
                    rintro z8 w8 ⟨rfl, n8, hw8⟩
                    have LB8 : Hid (Lb w2 r (.slice ao L.length cap) L (a2 + 1) k nm (.slice aoa ma capa) w8 a6 e6 (.slice (some ⟨g7, 0, none⟩) (nb + 1) cap7) (nb + 1) (xb ++ [.int .i64 k6, .string nm6, .slice ao6 m6 cap6])) := by
                      rw [hw8]
                      have hb := Sy.below_drewN (w7.setCell ⟨w2.heap.size, 3, none⟩ (.slice (some ⟨g7, 0, none⟩) (nb + 1) cap7)) n8
                      exact ⟨HL7.out.1.below hb, HL7.out.2.1.below hb, Lx.own_below HL7.out.2.2.1 hb, by omega, by omega, Or.inr ⟨c, HE6.out, HRe.out⟩⟩
                    clear HL7 HS hw8
                    obtain ⟨⟨c0, c1, c2⟩, f0, f1, f2⟩ := LB8.out.pw.pd.box.three
                    cases hsg : signB [44] (L.drop a6)
                    · have LT : Hid (Lt w2 r (.slice ao L.length cap) L a w8 a6 e6 k nm aoa ma capa (some ⟨g7, 0, none⟩) (nb + 1) cap7) := ⟨LB8.out.pw, LB8.out.rul, LB8.out.le, Or.inr ⟨c, HE6.out, by rw [HCl.out, HRe.out]; rfl⟩⟩
                      go_wp2_with fail
                      go_meet
                      exact ⟨_, _, _, _, _, LT⟩
                    · have hl9 := sign_lt hsg
                      have hst := LB8.out.pw.pd.stepI (by omega)
                      have LB9 : Hid (Lb w2 r (.slice ao L.length cap) L (a2 + 1) k nm (.slice aoa ma capa) (w8.setCell ⟨r, 1, none⟩ (.int .i64 (((a6 : Nat) : Int) + 1))) (a6 + 1) e6 (.slice (some ⟨g7, 0, none⟩) (nb + 1) cap7) (nb + 1) (xb ++ [.int .i64 k6, .string nm6, .slice ao6 m6 cap6])) :=
                        ⟨LB8.out.pw.then hst.1 hst.2, LB8.out.rul.fr hst.2 hrb, LB8.out.pw.pd.kept hst.2 LB8.out.row (by decide), by omega, by omega, Or.inr ⟨c, HE6.out, HRe.out⟩⟩
                      clear hst
                      go_wp2_with fail
                      go_roundw
                      case rel => exact ⟨_, _, _, _, _, LB9⟩
                      case measure =>
                        refine Nat.lt_of_le_of_lt (Nat.le_of_eq (ms_err LB9.out.pw.pd (by rw [HE6.out]; cases c <;> decide))) ?_
                        rw [hms2.out]
                        omega
                · have he50 : ((e' : Int) == 0) = false := by rw [he5]; cases c <;> rfl
                  have LT : Hid (Lt w2 r (.slice ao L.length cap) L a wr a' e' k nm aoa ma capa aob nb capb) := ⟨HI.out.pw, HI.out.rul, HI.out.le, Or.inr ⟨c, he5, by rw [HCl.out, hLc]; rfl⟩⟩
                  clear hLc he5
                  go_wp2_with fail
                  go_meet
                  exact ⟨_, _, _, _, _, LT⟩
          case rest =>
            obtain ⟨a5, e5, aob, mb, capb, HLT⟩ := hcut
            have hne : Hid (L.drop a ≠ []) := by
              intro e0
              have := congrArg List.length e0
              rw [List.length_drop] at this
              simp at this
              omega
            have hrb : ¬ w2.heap.size = r := by omega
            clear P4 B4 hb HS2 hR
            rcases HLT.out.st with ⟨rfl, h51, h52, hcl⟩ | ⟨c, he5, hcl⟩
            · have HCL := hide hcl
              have HEa := hide (eat_any HLT.out.pw.pd [46] (by omega))
              clear hcl
              go_wp2_with fail
              refine Calls.mono HEa.out ?_
              rintro z9 w9 ⟨rfl, ⟨a9, hp9, ha9, hb9⟩, hf9⟩
              have F9 := hide (HLT.out.pw.fr.trans hf9 (fun _ _ e => e))
              have B9 := hide (HLT.out.rul.fr hf9 hrb)
              have O9 := hide (H2.out.kept F9.out O2.out (by decide))
              obtain ⟨⟨d0, d1, d2, d3⟩, g0, g1, g2, g3⟩ := B9.out.four
              have HTK := hide (sign_take HL.out a5 [46] (by decide) rfl)
              cases hsg : signB [46] (L.drop a5)
              · rw [hsg, if_neg (by decide)] at hp9
                rw [hsg] at HTK
                have P9 := hide (P2.out.then hp9 F9.out)
                have HRe : Hid (progL 30 L = .error false) := by
                  obtain ⟨zs, h1, h2, h3, h4⟩ := M2.out
                  obtain ⟨ts, ls, _, _, h5⟩ := HCL.out
                  rw [endR, if_neg (by rw [← HTK.out]; decide)] at h5
                  show _ = _
                  rw [h4, progL_err hne.out h5]
                  rfl
                obtain ⟨g7, cap7, w7, hap, HL7⟩ := Lp_push HP.out P9.out O9.out hn30 k nm aoa ma capa aob mb capb
                have LP : Hid (Lp W0 r (.slice ao L.length cap) L w7 a9 4 (.slice (some ⟨g7, 0, none⟩) (n + 1) cap7) (n + 1) (xs ++ [.int .i64 k, .string nm, .slice aoa ma capa, .slice aob mb capb])) :=
                  ⟨HL7.out.1, HL7.out.2.1, by omega, by omega, Or.inr ⟨false, rfl, HRe.out⟩⟩
                obtain ⟨⟨c0, c1, c2⟩, f0, f1, f2⟩ := P9.out.pd.box.three
                clear hp9 hf9 HEa HLT HL7
                go_wp2_with (at_builtin; refine wpList_append_run _ rfl (.tmp 107) (.tmp 109) 23 23 rfl _ _ rfl rfl (hap _) ?_)
                go_roundw
                case rel => exact ⟨_, _, _, _, LP⟩
                case measure =>
                  refine Nat.lt_of_le_of_lt (Nat.le_of_eq (ms_err LP.out.pw.pd (by decide))) ?_
                  rw [hms.out]
                  omega
              · rw [hsg, if_pos rfl] at hp9
                rw [hsg] at HTK
                have h9 := ha9 hsg
                subst h9
                have hl9 := sign_lt hsg
                have P9 := hide (P2.out.then hp9 F9.out)
                obtain ⟨⟨c0, c1, c2⟩, f0, f1, f2⟩ := P9.out.pd.box.three
                have HCR : Hid (∃ (ts : List Tm) (ls : List Sy.Lit), isTs w9 ts (.slice aoa ma capa) ∧ isLs w9 ls (.slice aob mb capb) ∧ clauseL (L.drop a) = .ok (((k, nm, ts), ls), L.drop (a5 + 1))) := by
                  obtain ⟨ts, ls, q1, q2, h5⟩ := HCL.out
                  refine ⟨ts, ls, HLT.out.pw.pd.isTs hf9 q1, HLT.out.pw.pd.isLs hf9 q2, ?_⟩
                  rw [h5, endR, if_pos HTK.out.symm, takeR, if_pos HTK.out.symm, drop_tail]
                clear hp9 hf9 HEa HLT HCL HTK
                by_cases hfull : n = 30
                · have gf : ((n : Int) == 30) = true := by simp; omega
                  have HRe : Hid (progL 30 L = .error true) := by
                    obtain ⟨zs, h1, h2, h3, h4⟩ := M2.out
                    obtain ⟨ts, ls, _, _, h5⟩ := HCR.out
                    show _ = _
                    rw [h4, show 30 - zs.length = 0 by omega, progL_zero hne.out h5]
                    rfl
                  have HB := hide (bad_any P9.out.pd 8)
                  clear hfull
                  go_wp2_with fail
                  refine Calls.mono HB.out ?_
                  rintro zb wb ⟨rfl, hpb, hfb⟩
                  simp only [if_true] at hpb
                  have Pb := hide (P9.out.then hpb hfb)
                  have Ob := hide (P9.out.pd.kept hfb O9.out (by decide))
                  have Bb := hide (B9.out.fr hfb hrb)
                  clear c0 c1 c2 f0 f1 f2 d0 d1 d2 d3 g0 g1 g2 g3 hpb hfb HB
                  obtain ⟨⟨d0, d1, d2, d3⟩, g0, g1, g2, g3⟩ := Bb.out.four
                  obtain ⟨g7, cap7, w7, hap, HL7⟩ := Lp_push HP.out Pb.out Ob.out hn30 k nm aoa ma capa aob mb capb
                  have LP : Hid (Lp W0 r (.slice ao L.length cap) L w7 (a5 + 1) 8 (.slice (some ⟨g7, 0, none⟩) (n + 1) cap7) (n + 1) (xs ++ [.int .i64 k, .string nm, .slice aoa ma capa, .slice aob mb capb])) :=
                    ⟨HL7.out.1, HL7.out.2.1, by omega, by omega, Or.inr ⟨true, rfl, HRe.out⟩⟩
                  clear HL7
                  go_wp2_with (at_builtin; refine wpList_append_run _ rfl (.tmp 107) (.tmp 109) 23 23 rfl _ _ rfl rfl (hap _) ?_)
                  go_roundw
                  case rel => exact ⟨_, _, _, _, LP⟩
                  case measure =>
                    refine Nat.lt_of_le_of_lt (Nat.le_of_eq (ms_err LP.out.pw.pd (by decide))) ?_
                    rw [hms.out]
                    omega
                · have gf : ((n : Int) == 30) = false := by simp; omega
                  obtain ⟨g7, cap7, w7, hap, HL7⟩ := Lp_push HP.out P9.out O9.out hn30 k nm aoa ma capa aob mb capb
                  have LP : Hid (Lp W0 r (.slice ao L.length cap) L w7 (a5 + 1) 0 (.slice (some ⟨g7, 0, none⟩) (n + 1) cap7) (n + 1) (xs ++ [.int .i64 k, .string nm, .slice aoa ma capa, .slice aob mb capb])) := by
                    obtain ⟨zs, h1, h2, h3, h4⟩ := M2.out
                    obtain ⟨ts, ls, q1, q2, h5⟩ := HCR.out
                    refine ⟨HL7.out.1, HL7.out.2.1, by omega, by omega, Or.inl ⟨rfl, by omega, by omega, zs ++ [(((k, nm, ts), ls), .slice aoa ma capa, .slice aob mb capb)], by simp [h1], ?_, ?_, ?_⟩⟩
                    · rw [cellsRz_snoc, h2]
                    · intro z hz
                      rcases List.mem_append.1 hz with hz | hz
                      · exact ⟨HL7.out.2.2.1 _ _ (H2.out.isTs F9.out (h3 z hz).1), HL7.out.2.2.2 _ _ (H2.out.isLs F9.out (h3 z hz).2)⟩
                      · obtain rfl : z = (((k, nm, ts), ls), .slice aoa ma capa, .slice aob mb capb) := by simpa using hz
                        exact ⟨HL7.out.2.2.1 _ _ q1, HL7.out.2.2.2 _ _ q2⟩
                    · obtain ⟨m, hm⟩ : ∃ m, 30 - zs.length = m + 1 := ⟨30 - zs.length - 1, by omega⟩
                      have hm2 : 30 - (zs ++ [((((k, nm, ts), ls) : Rul), Value.slice aoa ma capa, Value.slice aob mb capb)]).length = m := by simp; omega
                      rw [h4, hm, hm2, progL_more hne.out h5, joinP_joinP, List.map_append]
                      rfl
                  clear HL7 hfull
                  go_wp2_with (at_builtin; refine wpList_append_run _ rfl (.tmp 107) (.tmp 109) 23 23 rfl _ _ rfl rfl (hap _) ?_)
                  go_roundw
                  case rel => exact ⟨_, _, _, _, LP⟩
                  case measure =>
                    refine Nat.lt_of_le_of_lt (Nat.le_of_eq (ms_ok LP.out.pw.pd)) ?_
                    rw [hms.out]
                    omega
            · have HEa := hide (eat_err HLT.out.pw.pd (by rw [he5]; cases c <;> decide) [46])
              have he50 : ((e5 : Int) == 0) = false := by rw [he5]; cases c <;> rfl
              have HE5 := hide he5
              have HCL := hide hcl
              clear hcl he5
              go_wp2_with fail
              refine Calls.mono HEa.out ?_
              rintro z9 w9 ⟨rfl, hw9⟩
              have hw9' := hw9.symm
              subst hw9'
              clear hw9 HEa
              have P9 := hide (P2.out.then HLT.out.pw.pd HLT.out.pw.fr)
              have O9 := hide (H2.out.kept HLT.out.pw.fr O2.out (by decide))
              obtain ⟨⟨d0, d1, d2, d3⟩, g0, g1, g2, g3⟩ := HLT.out.rul.four
              obtain ⟨⟨c0, c1, c2⟩, f0, f1, f2⟩ := P9.out.pd.box.three
              have HRe : Hid (progL 30 L = .error c) := by
                obtain ⟨zs, h1, h2, h3, h4⟩ := M2.out
                show _ = _
                rw [h4, progL_err hne.out HCL.out]
                rfl
              obtain ⟨g7, cap7, w7, hap, HL7⟩ := Lp_push HP.out P9.out O9.out hn30 k nm aoa ma capa aob mb capb
              have LP : Hid (Lp W0 r (.slice ao L.length cap) L w7 a5 e5 (.slice (some ⟨g7, 0, none⟩) (n + 1) cap7) (n + 1) (xs ++ [.int .i64 k, .string nm, .slice aoa ma capa, .slice aob mb capb])) :=
                ⟨HL7.out.1, HL7.out.2.1, by omega, HLT.out.le, Or.inr ⟨c, HE5.out, HRe.out⟩⟩
              clear HL7 HLT
              go_wp2_with (at_builtin; refine wpList_append_run _ rfl (.tmp 107) (.tmp 109) 23 23 rfl _ _ rfl rfl (hap _) ?_)
              go_roundw
              case rel => exact ⟨_, _, _, _, LP⟩
              case measure =>
                refine Nat.lt_of_le_of_lt (Nat.le_of_eq (ms_err LP.out.pw.pd (by rw [HE5.out]; cases c <;> decide))) ?_
                rw [hms.out]
                omega
      · have hltI : decide ((a : Int) < (L.length : Int)) = false := by simp; omega
        go_wp2_with fail
        go_big_quiet (fail)
        have P6 := hide (HO.out.pw.below (Sy.below_drewN wr nq))
        have O6 := hide (Lx.own_below HO.out.row (Sy.below_drewN wr nq))
        have M6 : Hid (∃ zs : List (Rul × Value × Value), n = zs.length ∧ xs = cellsRz zs ∧ (∀ z ∈ zs, isTs (wr.drewN nq) z.1.1.2.2 z.2.1 ∧ isLs (wr.drewN nq) z.1.2 z.2.2) ∧ progL 30 L = .ok (zs.map (·.1))) := by
          obtain ⟨zs, h1, h2, h3, h4⟩ := HST.out
          refine ⟨zs, h1, h2, fun z hz => ⟨isTs_below (h3 z hz).1 (Sy.below_drewN _ _), isLs_below (h3 z hz).2 (Sy.below_drewN _ _)⟩, ?_⟩
          rw [h4, drop_end L a (by omega), progL_nil]
          show Except.ok _ = _
          simp
        clear HO HST c0 c1 c2 f0 f1 f2
        generalize wr.drewN nq = W6 at *
        have HBd := hide (bad_any P6.out.pd E)
        go_wp2_with fail
        refine Calls.mono HBd.out ?_
        rintro z7 w7 ⟨rfl, hp7, hf7⟩
        simp only [if_true] at hp7
        have P7 := hide (P6.out.then hp7 hf7)
        have O7 := hide (P6.out.pd.kept hf7 O6.out (by decide))
        have M7 : Hid (∃ zs : List (Rul × Value × Value), n = zs.length ∧ xs = cellsRz zs ∧ (∀ z ∈ zs, isTs w7 z.1.1.2.2 z.2.1 ∧ isLs w7 z.1.2 z.2.2) ∧ progL 30 L = .ok (zs.map (·.1))) := by
          obtain ⟨zs, h1, h2, h3, h4⟩ := M6.out
          exact ⟨zs, h1, h2, fun z hz => ⟨P6.out.pd.isTs hf7 (h3 z hz).1, P6.out.pd.isLs hf7 (h3 z hz).2⟩, h4⟩
        clear HBd hp7 hf7 P6 O6 M6
        obtain ⟨⟨c0, c1, c2⟩, f0, f1, f2⟩ := P7.out.pd.box.three
        have hF : Hid (Below w.heap.size w w7) := HBW.out.trans (P7.out.fr.below (fun k hk => by rw [hk]; exact HRr.out) (by have := HRr.out; omega))
        have hF2 : Hid (w.heap.size ≤ w7.heap.size) := Nat.le_trans (by have := HRr.out; omega) P7.out.fr.size
        rcases HE.out with ⟨hE0, hne⟩ | ⟨hE4, hno⟩
        · subst hE0
          go_wp2_with fail
          go_ret2
          obtain ⟨zs, h1, h2, h3, h4⟩ := M7.out
          rw [HPF.out, if_neg hne, h4]
          refine ⟨⟨_, rfl, zs, rfl, ?_, h3⟩, hF.out⟩
          rw [← h1, ← h2]
          exact Vl.own_zero O7.out
        · subst hE4
          go_wp2_with fail
          go_big_quiet (fail)
          go_wp2_with fail
          go_ret2
          obtain ⟨zs, h1, h2, h3, h4⟩ := M7.out
          rw [HPF.out, if_pos hno, h4]
          exact ⟨rfl, hF.out.trans ((Sy.below_drewN w7 _).mono hF2.out)⟩
    · have he0 : ((e : Int) == 0) = false := by rw [he]; cases c <;> rfl
      have HRc := hide hRc
      have HEc := hide he
      clear hRc he
      go_wp2_with fail
      go_big_quiet (fail)
      have P6 := hide (HO.out.pw.below (Sy.below_drewN wr nq))
      clear HO c0 c1 c2 f0 f1 f2
      generalize wr.drewN nq = W6 at *
      have HBd := hide (bad_any P6.out.pd E)
      go_wp2_with fail
      refine Calls.mono HBd.out ?_
      rintro z7 w7 ⟨rfl, hp7, hf7⟩
      rw [if_neg (by rw [HEc.out]; cases c <;> decide)] at hp7
      have P7 := hide (P6.out.then hp7 hf7)
      clear HBd hp7 hf7 P6
      obtain ⟨⟨c0, c1, c2⟩, f0, f1, f2⟩ := P7.out.pd.box.three
      have he1 : ((e : Int) != 0) = true := by rw [HEc.out]; cases c <;> rfl
      go_wp2_with fail
      go_big_quiet (fail)
      go_wp2_with fail
      go_ret2
      have hR : R0 = .error c := by
        rw [HPF.out, HRc.out]
        split <;> rfl
      rw [hR]
      refine ⟨by rw [HEc.out]; cases c <;> rfl, ?_⟩
      have hF : Below w.heap.size W0 w7 := P7.out.fr.below (fun k hk => by rw [hk]; exact HRr.out) (by have := HRr.out; omega)
      exact (HBW.out.trans hF).trans ((Sy.below_drewN w7 _).mono (Nat.le_trans (by have := HRr.out; omega) P7.out.fr.size))
end Go.Proofs.Ytjejpjpdfdcnlaa.Rp
namespace Go.Proofs.Ytjejpjpdfdcnlaa.Ck
open Go.RowKit Go.Shelf
open Vl (Tm Ts Fr)
open Sy

/-- A name that may be a key. -/
abbrev Nm := { x : ByteArray // x.size ≤ maxLen }
def varN (t : Tm) : Option Nm := if h : t.1 = 1 ∧ t.2.1.size ≤ maxLen then some ⟨t.2.1, h.2⟩ else none
/-- The variables of terms, from the left. -/
def varsT (ts : List Tm) : List Nm := ts.filterMap varN
theorem varsT_take {ts : List Tm} {k : Nat} (h : k < ts.length) : varsT (ts.take (k + 1)) = varsT (ts.take k) ++ (match varN ts[k] with | some x => [x] | none => []) := by
  unfold varsT
  rw [List.take_succ_eq_append_getElem h, List.filterMap_append]
  congr 1
  cases hv : varN ts[k] <;> simp [hv]
theorem varsT_pre (ts : List Tm) (k : Nat) : varsT (ts.take k) <+: varsT ts := by
  unfold varsT
  have h : ts = ts.take k ++ ts.drop k := (List.take_append_drop k ts).symm
  exact ⟨(ts.drop k).filterMap varN, by rw [← List.filterMap_append, ← h]⟩
theorem varsT_lt {ts : List Tm} {k : Nat} (h : k < ts.length) {x : Nm} (h1 : varN ts[k] = some x) : (varsT (ts.take k)).length < (varsT ts).length := by
  have h2 := (varsT_pre ts (k + 1)).length_le
  rw [varsT_take h, h1, List.length_append] at h2
  simp at h2
  omega
theorem varN_some {t : Tm} (h1 : t.1 = 1) (h2 : t.2.1.size ≤ maxLen) : varN t = some ⟨t.2.1, h2⟩ := by simp [varN, h1, h2]
theorem varN_none {t : Tm} (h1 : ¬ t.1 = 1) : varN t = none := by simp [varN, h1]

/-- Terms in memory, in a block below n₀. -/
def TsB (n₀ : Nat) (w : World) (v : Value) (L : List Tm) : Prop :=
  ∃ ao cap, v = .slice ao L.length cap ∧ L.length ≤ 1000000 ∧ (0 < L.length → ∃ g off, ao = some ⟨g, off, none⟩ ∧ g < n₀ ∧ ∀ i (h : i < L.length), w.cell? ⟨g, off + i * 3, none⟩ = some (.int .i64 L[i].1) ∧ w.cell? ⟨g, off + i * 3 + 1, none⟩ = some (.string L[i].2.1) ∧ w.cell? ⟨g, off + i * 3 + 2, none⟩ = some (.int .i64 L[i].2.2))
theorem TsB.below {n₀ : Nat} {w w' : World} {v : Value} {L : List Tm} (h : TsB n₀ w v L) (hb : Below n₀ w w') : TsB n₀ w' v L := by
  obtain ⟨ao, cap, rfl, h1, h2⟩ := h
  refine ⟨ao, cap, rfl, h1, fun hp => ?_⟩
  obtain ⟨g, off, rfl, hg, hc⟩ := h2 hp
  exact ⟨g, off, rfl, hg, fun i hi => ⟨(hb.cell (p := ⟨g, _, none⟩) hg).trans (hc i hi).1, (hb.cell (p := ⟨g, _, none⟩) hg).trans (hc i hi).2.1, (hb.cell (p := ⟨g, _, none⟩) hg).trans (hc i hi).2.2⟩⟩
theorem TsB.of {w : World} {v : Value} {L : List Tm} (h : isTs w L v) (hl : L.length ≤ 1000000) : TsB w.heap.size w v L := by
  obtain ⟨ao, cap, rfl, h1, h2⟩ := ts_of h
  refine ⟨ao, cap, rfl, hl, fun hp => ?_⟩
  obtain ⟨g, off, rfl, hc⟩ := h2 hp
  exact ⟨g, off, rfl, World.block_lt_of_cell? w _ (hc 0 hp).1, hc⟩

set_option maxRecDepth 100000 in
set_option maxHeartbeats 4000000 in
theorem vars1_in (n : Nat) (hn : 1 ≤ n) (l Bs n₀ : Nat) (sv : Value) (ts : List Tm) (hsz : ∀ t ∈ ts, t.2.1.size ≤ maxLen) (J Jx : List Nm → World → Prop) (W : World) (hJ : AbidesFrom W.heap.size J)
    (hY : ∀ pre x W1, J pre W1 → pre.length < (varsT ts).length → YieldAt Fence.wide (n - 1) Try.prog l #[.string x.1] W1 fun e W' =>
      (e = .returned (.bool true) ∧ J (pre ++ [x]) W' ∧ Below n₀ W1 W') ∨ (e = .returned (.bool false) ∧ Jx (pre ++ [x]) W'))
    (hBs : W.cell? ⟨Bs, 0, none⟩ = some sv) (hT : TsB n₀ W sv ts) (hn₀ : n₀ ≤ W.heap.size) (h0 : J [] W) :
    CallsIn Fence.wide n Try.prog 48 #[.func (.yield l) #[] #[], .pointer (some ⟨Bs, 0, none⟩)] W fun e W' => (∃ v, e = .returned v) ∧
      ((∃ ys, ys = varsT ts ∧ J ys W') ∨ (∃ pre, pre <+: varsT ts ∧ Jx pre W')) := by
  obtain ⟨ao, cap, rfl, hl, hc⟩ := hT
  have HC := hide hc
  have HY := hide hY
  clear hc hY
  refine callsIn_of_wp Try.func48 rfl trivial ?_ rfl
  simp only [Try.ntmps48, List.size_toArray, List.length_cons, List.length_nil, Nat.reduceAdd, Nat.reduceSub, Array.replicate_succ, Array.replicate_zero, List.push_toArray, List.append_toArray, List.nil_append, List.cons_append]
  gi_wp2
  gi_loopw [7] (fun i wr => ∃ k : Nat, k ≤ ts.length ∧ i = .int .i64 k ∧ J (varsT (ts.take k)) wr ∧ Below n₀ W wr) (fun i _ => ts.length - (intOf i).toNat)
  case atStart => exact ⟨0, Nat.zero_le _, rfl, h0, Below.refl _ _⟩
  case round =>
    obtain ⟨k, hk, rfl, hJs, hnx⟩ := hrel
    have HB := hide hnx
    have HJ := hide hJs
    clear hnx hJs
    by_cases hlt : k < ts.length
    · obtain ⟨g, off, rfl, hg, hcs⟩ := HC.out (by omega)
      obtain ⟨k0, k1, k2⟩ := hcs k hlt
      have k0 := (HB.out.cell (p := ⟨g, _, none⟩) hg).trans k0
      have k1 := (HB.out.cell (p := ⟨g, _, none⟩) hg).trans k1
      have k2 := (HB.out.cell (p := ⟨g, _, none⟩) hg).trans k2
      have HV := hide (varsT_take hlt)
      have HJ2 := hide fun o => hJ _ wr (wr.alloc o) none HJ.out (World.grownBy_alloc wr o none) (fun r e => by cases e)
      have HB2 := hide fun o => HB.out.alloc (Nat.le_trans hn₀ HB.out.size) o
      by_cases h1 : ts[k].1 = 1
      · obtain ⟨x, hvs, hx⟩ : ∃ x : Nm, varN ts[k] = some x ∧ ts[k].2.1 = x.1 := ⟨_, varN_some h1 (hsz _ (List.getElem_mem hlt)), rfl⟩
        have HYY := hide (HY.out _ x (wr.alloc (.cells #[.int .i64 ts[k].1, .string ts[k].2.1, .int .i64 ts[k].2.2] 79)) (HJ2.out _) (varsT_lt hlt hvs))
        rw [hvs] at HV
        simp only [] at HV
        rw [h1] at k0 HYY
        rw [hx] at k1 HYY
        clear hvs hx
        generalize ts[k] = t at *
        obtain ⟨fn, tmps, assign, body, hy, hR⟩ := HYY.out
        have HR := hide hR
        clear hR HYY h1 hcs
        gi_wp2
        refine RoundIn.mono HR.out ?_
        rintro e W3 (⟨rfl, hJ3, hk3⟩ | ⟨rfl, hJx3⟩)
        · have HJ3 := hide hJ3
          have HK3 := hide ((HB2.out _).trans hk3)
          clear hJ3 hk3
          gi_wp2
          go_roundw
          case rel => exact ⟨k + 1, by omega, by simp, by rw [HV.out]; exact HJ3.out, HK3.out⟩
          case measure => simp [intOf]; omega
        · have HJ3 := hide hJx3
          clear hJx3
          gi_wp2
          refine bodyPost_ret (results_none rfl _ _ _) rfl ?_
          exact ⟨⟨_, rfl⟩, .inr ⟨_, by rw [← HV.out]; exact varsT_pre _ _, HJ3.out⟩⟩
      · rw [varN_none h1] at HV
        simp only [List.append_nil] at HV
        have g1 : (ts[k].1 == 1) = false := by simpa using h1
        generalize ts[k] = t at *
        clear h1 hcs
        gi_wp2
        refine ⟨fun _ h => (by cases h), ?_⟩
        gi_wp2
        go_roundw
        case rel => exact ⟨k + 1, by omega, by simp, by rw [HV.out]; exact HJ2.out _, HB2.out _⟩
        case measure => simp [intOf]; omega
    · obtain rfl : k = ts.length := by omega
      have hkI : ¬ (ts.length : Int) < (ts.length : Int) := by omega
      gi_wp2
      go_end0
      exact ⟨⟨_, rfl⟩, .inl (by have := HJ.out; rwa [List.take_length] at this)⟩

/-- variables(terms): the slice is boxed; the function value captures the box. -/
theorem vars_in (n : Nat) (ao : Option Addr) (m cap : Nat) (w : World) :
    CallsIn Fence.wide n Try.prog 39 #[.slice ao m cap] w fun e w' => e = .returned (.func (.func 48) #[] #[.pointer (some ⟨w.heap.size, 0, none⟩)]) ∧ w' = w.alloc (.cells #[.slice ao m cap] 25) := by
  refine callsIn_of_wp Try.func39 rfl trivial ?_ rfl
  simp only [Try.ntmps39, List.size_toArray, List.length_cons, List.length_nil, Nat.reduceAdd, Nat.reduceSub, Array.replicate_succ, Array.replicate_zero, List.push_toArray, List.append_toArray, List.nil_append, List.cons_append]
  gi_wp2
  go_ret
  exact ⟨rfl, rfl⟩

/-- The function value that variables hands back goes through the terms' variables. -/
theorem vars_stops (n : Nat) (hn : 1 ≤ n) (Bs n₀ : Nat) (sv : Value) (ts : List Tm) (hsz : ∀ t ∈ ts, t.2.1.size ≤ maxLen) (w : World) (hBs : Bs < w.heap.size) (hn₀ : n₀ ≤ w.heap.size) (hc : w.cell? ⟨Bs, 0, none⟩ = some sv) (hT : TsB n₀ w sv ts) :
    SeqStopsK Fence.wide n Try.prog 48 #[.pointer (some ⟨Bs, 0, none⟩)] (fun x : Nm => #[Value.string x.1]) (Below n₀) (fun ys => ys = varsT ts) (fun pre => pre <+: varsT ts) (varsT ts).length w := fun l J Jx W hW hJ _ hY h0 =>
  vars1_in n hn l Bs n₀ sv ts hsz J Jx W hJ hY ((hW.cell (p := ⟨Bs, 0, none⟩) hBs).trans hc) (hT.below (hW.mono hn₀)) (Nat.le_trans hn₀ hW.size) h0
end Go.Proofs.Ytjejpjpdfdcnlaa.Ck
namespace Go.Proofs.Ytjejpjpdfdcnlaa.Ck
open Go.RowKit Go.Shelf
open Vl (Tm Ts Fr)
open Sy

/-- The marks that loops over functions leave. -/
def marks (dl : List Nat) : List Deferred := dl.map fun D => { target := .collected D, args := #[] }

/-- A frame that leaves with marks alone. -/
theorem leaves_marks {F : Fence} {n : Nat} {P : Program} {fn : Func} {tmps : Array Value} {R : Ending → World → Prop} : ∀ (dl : List Nat) (W : World), (∀ D ∈ dl, W.heap[D]? = some (.deferred (some []))) → dl.Nodup →
    (∀ W', Fr (fun k => k ∈ dl) W W' → LeavesIn F n P fn tmps R [] .returning W') → LeavesInM F n P fn tmps R (marks dl) .returning W := by
  intro dl
  induction dl with
  | nil => intro W _ _ h; exact h W (Fr.refl _ _)
  | cons D dl ih =>
    intro W hd hn h
    have hK := hd D (by simp)
    have hlt : D < W.heap.size := (Array.getElem?_eq_some_iff.1 hK).1
    obtain ⟨hD, hn⟩ := List.nodup_cons.1 hn
    have hF : Fr (fun k => k = D) W (W.putObj D (.deferred none)) := ⟨rfl, rfl, rfl, by simp [World.putObj], fun k hk hne => World.putObj_heap_other hne⟩
    refine ⟨by simp, .inl ⟨D, _, rfl, run_takeDeferred hK, ?_⟩⟩
    refine ih _ (fun E hE => ?_) hn (fun W' hW' => ?_)
    · rw [World.putObj_heap_other (fun e : E = D => hD (e ▸ hE))]
      exact hd E (by simp [hE])
    · refine h W' ((hF.mono (G := fun k => k ∈ D :: dl) (fun x _ e => by simp [e])).trans hW' (fun x _ e => by simp [e]))

theorem ownsMap_fr {F : Nat → Prop} {W W' : World} {k : TypeId} {R : Value → Option (DataW Unit × List MemPlace)} {b n : Nat} {D : DataW Unit} (h : W.ownsMap Try.prog k R b n D) (hf : Fr F W W') (hb : ¬ F b) : W'.ownsMap Try.prog k R b n D := by
  have hlt := h.lt
  obtain ⟨es, ck, hh, rest⟩ := h
  exact ⟨es, ck, (hf.block b hlt hb).trans hh, rest⟩

/-- A set of names, as it is read. -/
def inS (S : List Nm) (x : Nm) : Bool := S.any fun y => y.1.data.toList == x.1.data.toList
def SetOf (D : DataW Unit) (S : List Nm) : Prop := Maps.IsMap D ∧ ∀ x : Nm, Maps.has D (.string x.1.data.toList) = inS S x
theorem SetOf.nil : SetOf (.map []) [] := ⟨⟨[], rfl⟩, fun x => by simp [Maps.has, inS]⟩
theorem nm_ext {x y : Nm} (h : x.1.data.toList = y.1.data.toList) : x = y := Subtype.ext (Vl.bytes_ext h)
theorem key_str {x : List UInt8} : WideAt.IsKeyLit (.string x) := by first | trivial | exact ⟨_, rfl⟩ | simp [WideAt.IsKeyLit]
theorem SetOf.put {D : DataW Unit} {S : List Nm} (h : SetOf D S) (x : Nm) (d : DataW Unit) : SetOf (D.put (.string x.1.data.toList) d) (S ++ [x]) := by
  have hm : Maps.IsMap (D.put (.string x.1.data.toList) d) := by
    obtain ⟨es, rfl⟩ := h.1
    exact ⟨_, rfl⟩
  refine ⟨hm, fun y => ?_⟩
  by_cases hy : y = x
  · subst hy
    rw [Maps.has_put_same h.1 key_str]
    simp [inS]
  · have hne : ¬ x.1.data.toList = y.1.data.toList := fun e => hy (nm_ext e.symm)
    rw [Maps.has_put_other (fun e => hy (nm_ext (by simpa using e))), h.2]
    have hb : (x.1.data.toList == y.1.data.toList) = false := by rw [beq_eq_false_iff_ne]; exact hne
    rw [inS, inS, List.any_append, List.any_cons, List.any_nil, hb, Bool.or_false, Bool.or_false]

/-- What boundBy has in memory: its map, the map's box, the marks. -/
structure Bb (w W : World) (S : List Nm) (dl : List Nat) : Prop where
  box : Bx W (w.heap.size + 1) 70 #[.map (some w.heap.size)]
  map : ∃ D, W.ownsMap Try.prog 9 (unitElem (H := Unit)) w.heap.size S.length D ∧ SetOf D S
  below : Below w.heap.size w W
  ds : ∀ D ∈ dl, w.heap.size ≤ D ∧ W.heap[D]? = some (.deferred (some []))
  nd : dl.Nodup
theorem Bb.fr {w W W' : World} {S : List Nm} {dl : List Nat} (h : Bb w W S dl) {F : Nat → Prop} (hf : Fr F W W') (hF : ∀ k, k < W.heap.size → F k → False) : Bb w W' S dl := by
  obtain ⟨D, h1, h2⟩ := h.map
  refine ⟨h.box.fr hf (hF _ h.box.lt), ⟨D, ownsMap_fr h1 hf (hF _ h1.lt), h2⟩, h.below.trans (hf.below (fun k hk => by
    by_cases hl : k < W.heap.size
    · exact (hF k hl hk).elim
    · have := h.below.size; omega) h.below.size), fun D hD => ⟨(h.ds D hD).1, ?_⟩, h.nd⟩
  have hl : D < W.heap.size := (Array.getElem?_eq_some_iff.1 (h.ds D hD).2).1
  rw [hf.block D hl (hF D hl)]
  exact (h.ds D hD).2
theorem Bb.alloc {w W : World} {S : List Nm} {dl : List Nat} (h : Bb w W S dl) (o : Obj) : Bb w (W.alloc o) S dl := h.fr (F := fun _ => False) ((Fr.refl _ _).alloc o) (fun _ _ e => e)
theorem Bb.grown {w A B : World} {S : List Nm} {dl : List Nat} (h : Bb w A S dl) {row : Option Nat} (hg : A.grownBy B row) {z : Nat} (hz : w.heap.size + 2 ≤ z) (hd : ∀ D ∈ dl, D < z) (hr : ∀ r, row = some r → z ≤ r) : Bb w B S dl := by
  obtain ⟨D, h1, h2⟩ := h.map
  have hblk : ∀ k, k < z → k < A.heap.size → B.heap[k]? = A.heap[k]? := fun k hk hl => hg.block k hl (fun e => by have := hr k e.symm; omega)
  refine ⟨?_, ⟨D, ?_, h2⟩, ⟨hg.os.trans h.below.os, hg.tape.trans h.below.tape, hg.output.trans h.below.output, Nat.le_trans h.below.size hg.size, fun k hk => (hblk k (by omega) (Nat.lt_of_lt_of_le hk h.below.size)).trans (h.below.block k hk)⟩, fun D hD => ⟨(h.ds D hD).1, ?_⟩, h.nd⟩
  · exact (hblk _ (by omega) h.box.lt).trans h.box
  · have hlt := h1.lt
    obtain ⟨es, ck, hh, rest⟩ := h1
    exact ⟨es, ck, (hblk _ (by omega) hlt).trans hh, rest⟩
  · have hl : D < A.heap.size := (Array.getElem?_eq_some_iff.1 (h.ds D hD).2).1
    exact (hblk D (hd D hD) hl).trans (h.ds D hD).2

theorem cell_two (W : World) (o : Obj) (v : Value) (t : TypeId) : ((W.alloc o).alloc (.cells #[v] t)).cell? ⟨W.heap.size + 1, 0, none⟩ = some v := by
  have h := (Bx.new (W.alloc o) #[v] t).c 0
  rw [World.size_alloc] at h
  exact h
/-- The variables that a body's atoms bind. -/
def boundL (ls : List Sy.Lit) : List Nm := ls.flatMap fun l => if l.1 = 1 then varsT l.2.2 else []
theorem boundL_take {ls : List Sy.Lit} {k : Nat} (h : k < ls.length) : boundL (ls.take (k + 1)) = boundL (ls.take k) ++ (if ls[k].1 = 1 then varsT ls[k].2.2 else []) := by
  unfold boundL
  rw [List.take_succ_eq_append_getElem h, List.flatMap_append]
  simp
theorem boundL_pre (ls : List Sy.Lit) (k : Nat) : (boundL (ls.take k)).length ≤ (boundL ls).length := by
  have h : ls = ls.take k ++ ls.drop k := (List.take_append_drop k ls).symm
  conv => rhs; rw [h]
  unfold boundL
  rw [List.flatMap_append, List.length_append]
  omega
/-- Names and lists of a size that may be. -/
structure Few (ls : List Sy.Lit) : Prop where
  len : ls.length ≤ 1000000
  args : ∀ l ∈ ls, l.2.2.length ≤ 1000000 ∧ ∀ t ∈ l.2.2, t.2.1.size ≤ maxLen
  all : (boundL ls).length ≤ 1000000000

set_option maxRecDepth 100000 in
set_option maxHeartbeats 8000000 in
theorem boundBy_in (n : Nat) (hn : 3 ≤ n) (ls : List Sy.Lit) (v : Value) (w : World) (hv : isLs w ls v) (hf : Few ls) :
    CallsIn Fence.wide n Try.prog 26 #[v] w fun e W' => e = .returned (.map (some w.heap.size)) ∧ (∃ D, W'.ownsMap Try.prog 9 (unitElem (H := Unit)) w.heap.size (boundL ls).length D ∧ SetOf D (boundL ls)) ∧ Below w.heap.size w W' := by
  obtain ⟨ao, cap, rfl⟩ := isLs_shape hv
  have HC := hide (isLs_cells hv).2
  have HF := hide hf
  have hlen := hf.len
  clear hv hf
  have h1 : 1 ≤ n := by omega
  have hmm := @run_makeMap Try.prog
  have B0 : Hid (Bb w ((w.alloc (.map #[] 0)).alloc (.cells #[.map (some w.heap.size)] 70)) [] []) := by
    refine ⟨?_, ⟨_, (World.ownsMap_made w _ _ _).alloc _, SetOf.nil⟩, ((Below.refl _ w).alloc (Nat.le_refl _) _).alloc (by simp) _, by simp, by simp⟩
    have := Bx.new (w.alloc (.map #[] 0)) #[.map (some w.heap.size)] 70
    simpa using this
  refine callsIn_of_wp_marks Try.func26 rfl trivial ?_ rfl
  simp only [Try.ntmps26, List.size_toArray, List.length_cons, List.length_nil, Nat.reduceAdd, Nat.reduceSub, Array.replicate_succ, Array.replicate_zero, List.push_toArray, List.append_toArray, List.nil_append, List.cons_append]
  gi_wp2
  clear hmm
  refine wpIn_loop (fun a W => ∃ (k : Nat) (u5 u6 u11 u12 u13 u14 u15 u16 u17 u18 u19 u20 u21 u22 u23 u24 : Value) (dl : List Nat), k ≤ ls.length ∧ a = { tmps := #[.slice ao ls.length cap, undef, .map none, .pointer (some ⟨w.heap.size + 1, 0, none⟩), undef, u5, u6, .map (some w.heap.size), .slice ao ls.length cap, .int .i64 (ls.length : Int), .int .i64 (k : Int), u11, u12, u13, u14, u15, u16, u17, u18, u19, u20, u21, u22, u23, u24, undef], defers := marks dl } ∧ Hid (Bb w W (boundL (ls.take k)) dl)) (fun a _ => ls.length - (intOf (a.tmps.getD 10 undef)).toNat) ?start ?round
  case start => exact ⟨0, _, _, _, _, _, _, _, _, _, _, _, _, _, _, _, _, [], Nat.zero_le _, rfl, B0⟩
  case round =>
    rintro a W ⟨k, u5, u6, u11, u12, u13, u14, u15, u16, u17, u18, u19, u20, u21, u22, u23, u24, dl, hk, rfl, HB⟩
    clear B0
    by_cases hlt : k < ls.length
    · have hltI : (k : Int) < (ls.length : Int) := by omega
      obtain ⟨g, rfl, hc⟩ := HC.out (by omega)
      obtain ⟨va, hva, k0, k1, k2⟩ := hc k hlt
      have k0 := cell_below' k0 HB.out.below
      have k1 := cell_below' k1 HB.out.below
      have k2 := cell_below' k2 HB.out.below
      have HFa := HF.out.args _ (List.getElem_mem hlt)
      have HT := hide (TsB.of hva HFa.1)
      have HT2 := hide HFa.2
      have HBT := hide (boundL_take hlt)
      have HBL : Hid ((boundL (ls.take (k + 1))).length ≤ 1000000000) := Nat.le_trans (boundL_pre ls (k + 1)) HF.out.all
      obtain ⟨_, aov, capv, rfl⟩ := own_len hva
      clear hc hva HFa
      generalize ls[k] = l at *
      by_cases h1k : l.1 = 1
      · rw [h1k] at k0
        rw [if_pos h1k] at HBT
        clear h1k
        have HB2 := hide ((HB.out.alloc (.cells #[.int .i64 1, .string l.2.1, .slice aov l.2.2.length capv] 27)).alloc (.cells #[.slice aov l.2.2.length capv] 25))
        gi_wp2
        refine ⟨trivial, ?_⟩
        refine (vars_in (n - 1) _ _ _ _).mono ?_
        rintro e w' ⟨rfl, rfl⟩
        have cB : (((W.alloc (.cells #[.int .i64 1, .string l.2.1, .slice aov l.2.2.length capv] 27)).alloc (.cells #[.slice aov l.2.2.length capv] 25))).cell? ⟨W.heap.size + 1, 0, none⟩ = some (.slice aov l.2.2.length capv) := by
          exact cell_two W _ _ _
        have hsz : (((W.alloc (.cells #[.int .i64 1, .string l.2.1, .slice aov l.2.2.length capv] 27)).alloc (.cells #[.slice aov l.2.2.length capv] 25))).heap.size = W.heap.size + 2 := by simp
        have hWs := HB.out.below.size
        have hWb := HB.out.box.lt
        have hdl : Hid (∀ D ∈ dl, D < W.heap.size) := fun D hD => (Array.getElem?_eq_some_iff.1 (HB.out.ds D hD).2).1
        clear HB k0 k1 k2
        gi_wp2
        generalize ((W.alloc (.cells #[.int .i64 1, .string l.2.1, .slice aov l.2.2.length capv] 27)).alloc (.cells #[.slice aov l.2.2.length capv] 25)) = W1 at *
        refine wpIn_rangeFunc_ownG rfl h1 (gf := 48) (lb := #[.pointer (some ⟨W.heap.size + 1, 0, none⟩)]) rfl trivial (enters_of Try.func48 (by kernel_rfl) rfl)
          (vars_stops (n - 1) (by omega) (W.heap.size + 1) w.heap.size _ l.2.2 HT2.out W1 (by omega) (by omega) cB (HT.out.below HB2.out.below)) belowK_t (belowK_b (by omega)) (Below.refl _ _) (fun _ => rfl)
          (fun pre X => Hid (Bb w X (boundL (ls.take k) ++ pre) dl)) (fun _ _ _ => False)
          (fun s A B row hs hg hr => hs.out.grown hg (z := W1.heap.size) (by omega) (fun D hD => by have := hdl.out D hD; omega) (fun r e => (hr r e).1))
          (fun _ _ _ _ _ hs _ _ => hs)
          (by rw [List.append_nil]; exact HB2)
          (fun x => { tmps := #[.slice (some ⟨g, 0, none⟩) ls.length cap, undef, .map none, .pointer (some ⟨w.heap.size + 1, 0, none⟩), undef, .pointer (some ⟨W.heap.size, 0, none⟩), .string x.1, .map (some w.heap.size), .slice (some ⟨g, 0, none⟩) ls.length cap, .int .i64 (ls.length : Int), .int .i64 (k : Int), .bool true, .pointer (some ⟨g, k * 3, none⟩), .agg #[.int .i64 1, .string l.2.1, .slice aov l.2.2.length capv], .pointer (some ⟨W.heap.size, 0, none⟩), .int .i64 1, .bool false, .pointer (some ⟨W.heap.size, 2, none⟩), .slice aov l.2.2.length capv, .func (.func 48) #[] #[.pointer (some ⟨W.heap.size + 1, 0, none⟩)], .string x.1, u21, u22, u23, u24, undef], defers := [] }) ?assign ?body ?done ?stop
        case assign =>
          intro l' x X K hK
          have hsem := @Oper.semAt_some
          gi_wp2
          exact hK
        case body =>
          rintro l' pre x X HI hlt2
          have hsem := @Oper.semAt_some
          obtain ⟨D, hown, hset⟩ := HI.out.map
          have c3 := HI.out.box.c 0
          have hN : (boundL (ls.take k) ++ pre).length < maxLen := by
            have h1 := HBL.out
            rw [HBT.out, List.length_append] at h1
            rw [List.length_append]
            simp only [maxLen]
            omega
          have HS := hide hset
          have HI2 := hide HI.out
          have HOWN := hide hown
          clear hset HI
          gi_wp2_with (gi_at_mapUpdate; refine wpListIn_mapUpdate_own _ rfl _ _ _ 70 rfl 9 94 (Maps.string_keyed Try.underlying9) Try.underlying70 _ w.heap.size _ D rfl HOWN.out hN _ _ _ rfl rfl (WideMaps.keyOf_string_mk Try.underlying9 x.2) (.agg []) [] unitElem_mk ?_; intro w1 hown1 hgrow1)
          obtain ⟨es, ck, hh, _⟩ := HOWN.out
          have hB1 : Below w.heap.size w w1 := HI2.out.below.grown hgrow1 HI2.out.below.size (fun k e => by cases e; exact Nat.le_refl _)
          refine ⟨KeepsFrom.of_grownBy hgrow1 (fun j e => by cases e; omega), (Below.refl _ X).grown hgrow1 HI2.out.below.size (fun k e => by cases e; exact Nat.le_refl _), ?_⟩
          have hblk : ∀ j, j < X.heap.size → j ≠ w.heap.size → w1.heap[j]? = X.heap[j]? := fun j hj hne => hgrow1.block j hj (fun e => by cases e; exact hne rfl)
          refine ⟨(hblk _ HI2.out.box.lt (by omega)).trans HI2.out.box, ⟨D.put (.string x.1.data.toList) (.agg []), ?_, by rw [← List.append_assoc]; exact HS.out.put x (.agg [])⟩, hB1, fun E hE => ⟨(HI2.out.ds E hE).1, ?_⟩, HI2.out.nd⟩
          · rw [← List.append_assoc, List.length_append]
            exact hown1
          · have hE2 := (HI2.out.ds E hE).2
            have hl : E < X.heap.size := (Array.getElem?_eq_some_iff.1 hE2).1
            refine (hblk E hl (fun e => ?_)).trans hE2
            subst e
            rw [hE2] at hh
            cases hh
        case done =>
          rintro D ys X hD rfl HI hK
          gi_wp2
          refine ⟨⟨k + 1, _, _, _, _, _, _, _, _, _, _, _, _, _, _, _, _, D :: dl, by omega, rfl, ?_⟩, by simp [intOf]; omega⟩
          rw [HBT.out]
          refine ⟨HI.out.box, HI.out.map, HI.out.below, ?_, ?_⟩
          · intro E hE
            rcases List.mem_cons.1 hE with rfl | hE
            · exact ⟨by omega, hK⟩
            · exact HI.out.ds E hE
          · refine List.nodup_cons.2 ⟨fun hE => ?_, HI.out.nd⟩
            have := hdl.out D hE
            omega
        case stop =>
          rintro D c pre X _ _ h _
          exact h.elim
      · have g1 : (l.1 != 1) = true := by simpa using h1k
        rw [if_neg h1k, List.append_nil] at HBT
        have HB2 := hide (HB.out.alloc (.cells #[.int .i64 l.1, .string l.2.1, .slice aov l.2.2.length capv] 27))
        clear h1k HB
        gi_wp2
        refine ⟨⟨k + 1, _, _, _, _, _, _, _, _, _, _, _, _, _, _, _, _, dl, by omega, rfl, ?_⟩, by simp [intOf]; omega⟩
        rw [HBT.out]
        exact HB2
    · have hke : k = ls.length := by omega
      have hkI : ¬ (k : Int) < (ls.length : Int) := by omega
      have c3 := HB.out.box.c 0
      have hta : ls.take k = ls := by rw [hke, List.take_length]
      rw [hta] at HB
      clear hta hke
      gi_wp2
      refine leaves_marks dl W (fun D hD => (HB.out.ds D hD).2) HB.out.nd (fun W' hW' => ?_)
      refine ⟨_, results_tmp rfl _ _ _, ?_⟩
      obtain ⟨D, h1, h2⟩ := HB.out.map
      have hnd : ¬ w.heap.size ∈ dl := fun hE => by
        have h3 := (HB.out.ds _ hE).2
        obtain ⟨es, ck, hh, _⟩ := h1
        rw [hh] at h3
        cases h3
      exact ⟨rfl, ⟨D, ownsMap_fr h1 hW' hnd, h2⟩, HB.out.below.trans (hW'.below (fun k hk => (HB.out.ds k hk).1) HB.out.below.size)⟩
end Go.Proofs.Ytjejpjpdfdcnlaa.Ck
namespace Go.Proofs.Ytjejpjpdfdcnlaa.Ck
open Go.RowKit Go.Shelf
open Vl (Tm Ts Fr)
open Sy

/-- What allIn has in memory. -/
structure As (w X : World) (b N : Nat) (D : DataW Unit) (r : Bool) : Prop where
  box : Bx X w.heap.size 70 #[.map (some b)]
  res : Bx X (w.heap.size + 1) 4 #[.bool r]
  own : X.ownsMap Try.prog 9 (unitElem (H := Unit)) b N D
  below : Below w.heap.size w X
theorem As.fr {w X X' : World} {b N : Nat} {D : DataW Unit} {r : Bool} (h : As w X b N D r) {F : Nat → Prop} (hf : Fr F X X') (hF : ∀ k, k < w.heap.size + 2 → F k → False) (hb : b < w.heap.size) : As w X' b N D r :=
  ⟨h.box.fr hf (hF _ (by omega)), h.res.fr hf (hF _ (by omega)), ownsMap_fr h.own hf (hF _ (by omega)), h.below.trans (hf.below (fun k hk => by
    by_cases hl : k < w.heap.size
    · exact (hF k (by omega) hk).elim
    · omega) h.below.size)⟩
theorem As.grown {w A B : World} {b N : Nat} {D : DataW Unit} {r : Bool} (h : As w A b N D r) (hb : b < w.heap.size) {row : Option Nat} (hg : A.grownBy B row) (hr : ∀ r, row = some r → w.heap.size + 2 ≤ r) : As w B b N D r :=
  h.fr (F := fun k => row = some k) (Vl.Fr.of_grown hg (fun k e => e)) (fun k hk e => by have := hr k e; omega) hb
theorem As.alloc {w X : World} {b N : Nat} {D : DataW Unit} {r : Bool} (h : As w X b N D r) (hb : b < w.heap.size) (o : Obj) : As w (X.alloc o) b N D r := h.fr (F := fun _ => False) ((Fr.refl _ _).alloc o) (fun _ _ e => e) hb
theorem As.set {w X : World} {b N : Nat} {D : DataW Unit} {r : Bool} (h : As w X b N D r) (hb : b < w.heap.size) (s : Bool) : As w (X.setCell ⟨w.heap.size + 1, 0, none⟩ (.bool s)) b N D s := by
  have hf : Fr (fun k => k = w.heap.size + 1) X (X.setCell ⟨w.heap.size + 1, 0, none⟩ (.bool s)) := Vl.Fr.one X _ 0 _
  exact ⟨h.box.fr hf (by omega), h.res.set 0 _, ownsMap_fr h.own hf (by omega), h.below.setCell (p := ⟨w.heap.size + 1, 0, none⟩) (by show w.heap.size ≤ w.heap.size + 1; omega) _⟩

set_option maxRecDepth 100000 in
set_option maxHeartbeats 8000000 in
theorem allIn_in (n : Nat) (hn : 3 ≤ n) (b N : Nat) (D : DataW Unit) (S : List Nm) (hset : SetOf D S) (ts : List Tm) (v : Value) (w : World) (hown : w.ownsMap Try.prog 9 (unitElem (H := Unit)) b N D) (hv : isTs w ts v) (hl : ts.length ≤ 1000000) (hsz : ∀ t ∈ ts, t.2.1.size ≤ maxLen) :
    CallsIn Fence.wide n Try.prog 27 #[.map (some b), v] w fun e W' => e = .returned (.bool ((varsT ts).all (inS S))) ∧ Below w.heap.size w W' := by
  have HT := hide (TsB.of hv hl)
  obtain ⟨_, ao, cap, rfl⟩ := own_len hv
  have hb := hown.lt
  have HS := hide hset
  have HZ := hide hsz
  have h1 : 1 ≤ n := by omega
  have A0 : Hid (As w ((w.alloc (.cells #[.map (some b)] 70)).alloc (.cells #[.bool false] 4)) b N D false) := by
    refine ⟨(Bx.new w _ _).below (Lx.below_box _ _), ?_, (hown.alloc _).alloc _, ((Below.refl _ w).alloc (Nat.le_refl _) _).alloc (by simp) _⟩
    have := Bx.new (w.alloc (.cells #[.map (some b)] 70)) #[.bool false] 4
    rw [World.size_alloc] at this
    exact this
  clear hv hset hsz hown
  refine callsIn_of_wp_marks Try.func27 rfl trivial ?_ rfl
  simp only [Try.ntmps27, List.size_toArray, List.length_cons, List.length_nil, Nat.reduceAdd, Nat.reduceSub, Array.replicate_succ, Array.replicate_zero, List.push_toArray, List.append_toArray, List.nil_append, List.cons_append]
  gi_wp2
  refine ⟨trivial, ?_⟩
  refine (vars_in (n - 1) _ _ _ _).mono ?_
  rintro e w' ⟨rfl, rfl⟩
  have A1 := hide (A0.out.alloc hb (.cells #[.slice ao ts.length cap] 25))
  have cB := cell_two (w.alloc (.cells #[.map (some b)] 70)) (.cells #[.bool false] 4) (.slice ao ts.length cap) 25
  rw [World.size_alloc] at cB
  have hszW : (((w.alloc (.cells #[.map (some b)] 70)).alloc (.cells #[.bool false] 4)).alloc (.cells #[.slice ao ts.length cap] 25)).heap.size = w.heap.size + 3 := by simp
  clear A0
  gi_wp2
  generalize (((w.alloc (.cells #[.map (some b)] 70)).alloc (.cells #[.bool false] 4)).alloc (.cells #[.slice ao ts.length cap] 25)) = W1 at *
  refine wpIn_rangeFunc_ownG rfl h1 (gf := 48) (lb := #[.pointer (some ⟨w.heap.size + 1 + 1, 0, none⟩)]) rfl trivial (enters_of Try.func48 (by kernel_rfl) rfl)
    (vars_stops (n - 1) (by omega) (w.heap.size + 1 + 1) w.heap.size _ ts HZ.out W1 (by omega) (by omega) cB (HT.out.below A1.out.below)) belowK_t (belowK_b (by omega)) (Below.refl _ _) (fun _ => rfl)
    (fun pre X => Hid (As w X b N D false) ∧ pre.all (inS S) = true) (fun c pre X => c = .ret ∧ Hid (As w X b N D false) ∧ pre.all (inS S) = false)
    (fun s A B row hs hg hr => ⟨hs.1.out.grown hb hg (fun r e => by have := (hr r e).1; omega), hs.2⟩)
    (fun c s A B row hs hg hr => ⟨hs.1, hs.2.1.out.grown hb hg (fun r e => by have := (hr r e).1; omega), hs.2.2⟩)
    ⟨A1, rfl⟩
    (fun x => { tmps := #[.map (some b), .slice ao ts.length cap, .pointer (some ⟨w.heap.size, 0, none⟩), undef, .pointer (some ⟨w.heap.size + 1, 0, none⟩), .string x.1, undef, undef, .slice ao ts.length cap, .func (.func 48) #[] #[.pointer (some ⟨w.heap.size + 1 + 1, 0, none⟩)], .string x.1, undef, undef, undef, undef, undef, undef, undef, undef], defers := [] }) ?assign ?body ?done ?stop
  case assign =>
    intro l' x X K hK
    have hsem := @Oper.semAt_some
    gi_wp2
    exact hK
  case body =>
    rintro l' pre x X ⟨HI, hp⟩ hlt2
    have hsem := @Oper.semAt_some
    have c0 := HI.out.box.c 0
    have A2 := hide fun o => HI.out.alloc hb o
    have c1 := fun o => (A2.out o).res.c 0
    have f1 := fun o => (A2.out o).res.f 0
    have hh := HS.out.2 x
    have HOWN := hide HI.out.own
    have hXs := HI.out.below.size
    have hXr := HI.out.res.lt
    simp only [List.getElem?_toArray, List.getElem?_cons_zero] at c1
    cases hx : inS S x
    · rw [hx] at hh
      have HP : Hid ((pre ++ [x]).all (inS S) = false) := by show _ = _; rw [List.all_append]; simp [hx]
      clear hx
      gi_wp2_with (gi_at_lookup; refine wpListIn_lookup_own_unit _ rfl _ _ 70 rfl 9 94 (Maps.string_keyed Try.underlying9) Try.underlying70 (by kernel_rfl) b N D rfl HOWN.out _ _ rfl (WideMaps.keyOf_string_mk Try.underlying9 x.2) ?_; rw [hh])
      exact ⟨((KeepsOthers.setCell _ _ _).trans (KeepsOthers.alloc _ _)).from _, rfl, (HI.out.set hb false).alloc hb _, HP.out⟩
    · rw [hx] at hh
      have HP : Hid ((pre ++ [x]).all (inS S) = true) := by show _ = _; rw [List.all_append, hp]; simp [hx]
      clear hx
      gi_wp2_with (gi_at_lookup; refine wpListIn_lookup_own_unit _ rfl _ _ 70 rfl 9 94 (Maps.string_keyed Try.underlying9) Try.underlying70 (by kernel_rfl) b N D rfl HOWN.out _ _ rfl (WideMaps.keyOf_string_mk Try.underlying9 x.2) ?_; rw [hh])
      exact ⟨(KeepsOthers.alloc _ _).from _, (Below.refl _ X).alloc hXs _, A2.out _, HP.out⟩
  case done =>
    rintro E ys X hD rfl ⟨HI, hp⟩ hK
    have c1 := HI.out.res.c 0
    have f1 := HI.out.res.f 0
    have HA := hide (HI.out.set hb true)
    have hK2 : Hid ((X.setCell ⟨w.heap.size + 1, 0, none⟩ (.bool true)).heap[E]? = some (.deferred (some []))) := (KeepsOthers.setCell X ⟨w.heap.size + 1, 0, none⟩ (.bool true)).same E _ hK rfl
    gi_wp2
    refine leaves_marks [E] _ (fun e he => by rw [List.mem_singleton.1 he]; exact hK2.out) (by simp) (fun W' hW' => ?_)
    have hA := HA.out.fr hW' (fun k hk e => by have := List.mem_singleton.1 e; omega) hb
    have hc := hA.res.c 0
    refine ⟨.bool true, by simp at hc; simp [results, Try.f27, go_sem, hc], ?_, hA.below⟩
    rw [hp]
  case stop =>
    rintro E c pre X hD hpre ⟨rfl, HI, hp⟩ hK
    gi_wp2
    refine leaves_marks [E] _ (fun e he => by rw [List.mem_singleton.1 he]; exact hK) (by simp) (fun W' hW' => ?_)
    have hA := HI.out.fr hW' (fun k hk e => by have := List.mem_singleton.1 e; omega) hb
    have hc := hA.res.c 0
    refine ⟨.bool false, by simp at hc; simp [results, Try.f27, go_sem, hc], ?_, hA.below⟩
    obtain ⟨q, hq⟩ := hpre
    rw [← hq, List.all_append, hp]
    rfl
end Go.Proofs.Ytjejpjpdfdcnlaa.Ck

/- The reference's Program: what holds ahead of each round of its two loops. The walk of the reference's Program. The law's first steps: two rules. The walks of Rules, Defined and begun. Rules that were read are such as may be printed: in plain mathematics. The law of many rules, in plain mathematics: its text, its words, what is read of them. -/
import Derived.Test.YtdmhajeaphnebaaPart09
import Derived.Test.YtdmhajeaphnebaaPart08
import Derived.Deep.CutBlock
import Derived.Test.YtdmhajeaphnebaaPart05
namespace Go.Proofs.Ytdmhajeaphnebaa.Rp
open Go.RowKit
open Lx (Wd tx cellsW wpList_append_run)
open Vl (Tm Fr)
open Sy

/-- The loop over a body's literals: what holds ahead of each round, seen from the world behind the head. -/
structure Lb (W1 : World) (r : Nat) (v : Value) (L : List Wd) (ab : Nat) (k : Int) (nm : ByteArray) (va : Value) (W : World) (a e : Nat) (yb : Value) (nb : Nat) (xb : List Value) : Prop where
  pw : Pw W1 r v L a e W
  rul : Bx W W1.heap.size 60 #[.int .i64 k, .string nm, va, yb]
  row : W.ownsRow W1.heap.size 57 3 yb nb xb
  few : nb ≤ 7
  le : a ≤ L.length + 1
  st : (e = 0 ∧ ab ≤ a ∧ a ≤ L.length ∧ nb ≤ 6 ∧ ∃ zb : List (Sy.Lit × Value), nb = zb.length ∧ xb = cellsLz zb ∧ (∀ z ∈ zb, isTs W z.1.2.2 z.2) ∧ listL litL 6 (L.drop ab) = joinR (zb.map (·.1)) (listL litL (6 - zb.length) (L.drop a))) ∨ (∃ c, e = codeN c ∧ listL litL 6 (L.drop ab) = .error c)

/-- One literal more: the append, and the store of the row into the rule. -/
theorem Lb_push {W1 : World} {r : Nat} {v : Value} {L : List Wd} {k : Int} {nm : ByteArray} {va : Value} {W : World} {a0 e0 a e : Nat} {y : Value} {n : Nat} {xs : List Value} (h0 : Pd W1 r v L a0 e0)
    (pw : Pw W1 r v L a e W) (rul : Bx W W1.heap.size 60 #[.int .i64 k, .string nm, va, y]) (row : W.ownsRow W1.heap.size 57 3 y n xs) (hn : n ≤ 6) (k' : Int) (nm' : ByteArray) (ao' : Option Addr) (m' cap' : Nat) :
    ∃ g cap w3, (∀ ty, (Builtin.append_ #[58, 58] ty #[y, .slice (some ⟨W.heap.size, 0, none⟩) 1 1]).run Try.prog (W.alloc (.cells #[.int .i64 k', .string nm', .slice ao' m' cap'] 57)) = .ok (.slice (some ⟨g, 0, none⟩) (n + 1) cap) w3) ∧
      (w3.cell? ⟨W1.heap.size, 3, none⟩ = some y ∧ w3.frozen? ⟨W1.heap.size, 3, none⟩ = false) ∧
      Hid (Pw W1 r v L a e (w3.setCell ⟨W1.heap.size, 3, none⟩ (.slice (some ⟨g, 0, none⟩) (n + 1) cap)) ∧ Bx (w3.setCell ⟨W1.heap.size, 3, none⟩ (.slice (some ⟨g, 0, none⟩) (n + 1) cap)) W1.heap.size 60 #[.int .i64 k, .string nm, va, .slice (some ⟨g, 0, none⟩) (n + 1) cap] ∧ (w3.setCell ⟨W1.heap.size, 3, none⟩ (.slice (some ⟨g, 0, none⟩) (n + 1) cap)).ownsRow W1.heap.size 57 3 (.slice (some ⟨g, 0, none⟩) (n + 1) cap) (n + 1) (xs ++ [.int .i64 k', .string nm', .slice ao' m' cap']) ∧
        (∀ ts u, isTs W ts u → isTs (w3.setCell ⟨W1.heap.size, 3, none⟩ (.slice (some ⟨g, 0, none⟩) (n + 1) cap)) ts u)) := by
  obtain ⟨g, cap, w3, hap, HO3, HF3⟩ := push_row 58 57 3 48 _ Try.underlying58 Sy.Try.info57 rfl (by decide) (by decide) row [.int .i64 k', .string nm', .slice ao' m' cap'] rfl (by simp [Value.oneCell']) (by omega) pw.fr.size
  have hrow : ∀ j, y.ownBlock = some j → W1.heap.size ≤ j := fun j hj => (row.lt j hj).1
  have hnot : ∀ {b : Nat} {T : TypeId} {cs : Array Value}, Bx W b T cs → T ≠ 57 → ¬ y.ownBlock = some b := fun {b T cs} hb hT hk => by
    rcases row.2 with ⟨rfl, _⟩ | ⟨g', cap', cur, rfl, _, hg, _⟩
    · simp [Value.ownBlock] at hk
    · simp [Value.ownBlock] at hk
      subst hk
      have := hb.symm.trans hg
      simp only [Option.some.injEq, Obj.cells.injEq] at this
      exact hT this.2.1
  have rul3 := rul.fr HF3.out (hnot rul (by decide))
  have hlt := h0.lt
  have pw3 : Pw W1 r v L a e w3 := by
    have hf : Fr (fun k => k = r) W1 w3 := pw.fr.trans HF3.out (fun x hx hFx => absurd (hrow x hFx) (by omega))
    exact ⟨⟨pw.pd.box.fr HF3.out (fun hk => by have := hrow r hk; omega), h0.kept hf h0.row (by decide), pw.pd.len, pw.pd.near⟩, hf⟩
  refine ⟨g, cap, w3, hap, ⟨rul3.c 3, rul3.f 3⟩, pw3.put h0 W1.heap.size 3 (Nat.le_refl _) _, rul3.set 3 _, own_put HO3.out rul3 (by decide) 3 _, fun ts u hu => ?_⟩
  exact isTs_put (isTs_grow hu row (by decide) HF3.out) rul3 (by decide) 3 _

/-- What Program has behind a rule's head and body, ahead of the stop. -/
structure Lt (W1 : World) (r : Nat) (v : Value) (L : List Wd) (a0 : Nat) (W : World) (a e : Nat) (k : Int) (nm : ByteArray) (aoa : Option Addr) (ma capa : Nat) (aob : Option Addr) (mb capb : Nat) : Prop where
  pw : Pw W1 r v L a e W
  rul : Bx W W1.heap.size 60 #[.int .i64 k, .string nm, .slice aoa ma capa, .slice aob mb capb]
  le : a ≤ L.length + 1
  st : (e = 0 ∧ a0 < a ∧ a ≤ L.length ∧ ∃ (ts : List Tm) (ls : List Sy.Lit), isTs W ts (.slice aoa ma capa) ∧ isLs W ls (.slice aob mb capb) ∧ clauseL (L.drop a0) = endR (k, nm, ts) ls (L.drop a)) ∨ (∃ c, e = codeN c ∧ clauseL (L.drop a0) = .error c)

/-- The loop over the rules. -/
structure Lp (w : World) (r : Nat) (v : Value) (L : List Wd) (W : World) (a e : Nat) (y : Value) (n : Nat) (xs : List Value) : Prop where
  pw : Pw w r v L a e W
  row : W.ownsRow w.heap.size 60 4 y n xs
  few : n ≤ 31
  le : a ≤ L.length + 1
  st : (e = 0 ∧ a ≤ L.length ∧ n ≤ 30 ∧ ∃ zs : List (Rul × Value × Value), n = zs.length ∧ xs = cellsRz zs ∧ (∀ z ∈ zs, isTs W z.1.1.2.2 z.2.1 ∧ isLs W z.1.2 z.2.2) ∧ progL 30 L = joinP (zs.map (·.1)) (progL (30 - zs.length) (L.drop a))) ∨ (∃ c, e = codeN c ∧ progL 30 L = .error c)

theorem Pd.isTs {w w' : World} {r : Nat} {v : Value} {L : List Wd} {a e : Nat} (h : Pd w r v L a e) (hf : Fr (fun k => k = r) w w') {ts : List Tm} {y : Value} (ht : isTs w ts y) : isTs w' ts y := h.kept hf ht (by decide)
theorem Pd.isLs {w w' : World} {r : Nat} {v : Value} {L : List Wd} {a e : Nat} (h : Pd w r v L a e) (hf : Fr (fun k => k = r) w w') {ls : List Sy.Lit} {y : Value} (ht : isLs w ls y) : isLs w' ls y := by
  obtain ⟨zs, h1, h2, h3⟩ := ht
  exact ⟨zs, h1, h.kept hf h2 (by decide), fun z hz => h.isTs hf (h3 z hz)⟩

/-- One rule more. -/
theorem Lp_push {w : World} {r : Nat} {v : Value} {L : List Wd} {W : World} {a0 e0 a e : Nat} {y : Value} {n : Nat} {xs : List Value} (h0 : Pd w r v L a0 e0)
    (pw : Pw w r v L a e W) (row : W.ownsRow w.heap.size 60 4 y n xs) (hn : n ≤ 30) (k : Int) (nm : ByteArray) (aoa : Option Addr) (ma capa : Nat) (aob : Option Addr) (mb capb : Nat) :
    ∃ g cap w3, (∀ ty, (Builtin.append_ #[23, 23] ty #[y, .slice (some ⟨W.heap.size, 0, none⟩) 1 1]).run Try.prog (W.alloc (.cells #[.int .i64 k, .string nm, .slice aoa ma capa, .slice aob mb capb] 60)) = .ok (.slice (some ⟨g, 0, none⟩) (n + 1) cap) w3) ∧
      Hid (Pw w r v L a e w3 ∧ w3.ownsRow w.heap.size 60 4 (.slice (some ⟨g, 0, none⟩) (n + 1) cap) (n + 1) (xs ++ [.int .i64 k, .string nm, .slice aoa ma capa, .slice aob mb capb]) ∧
        (∀ ts u, isTs W ts u → isTs w3 ts u) ∧ (∀ ls u, isLs W ls u → isLs w3 ls u)) := by
  obtain ⟨g, cap, w3, hap, HO3, HF3⟩ := push_row 23 60 4 72 _ Try.underlying23 Sy.Try.info60 rfl (by decide) (by decide) row [.int .i64 k, .string nm, .slice aoa ma capa, .slice aob mb capb] rfl (by simp [Value.oneCell']) (by omega) pw.fr.size
  have hrow : ∀ j, y.ownBlock = some j → w.heap.size ≤ j := fun j hj => (row.lt j hj).1
  have hlt := h0.lt
  have pw3 : Pw w r v L a e w3 := by
    have hf : Fr (fun k => k = r) w w3 := pw.fr.trans HF3.out (fun x hx hFx => absurd (hrow x hFx) (by omega))
    exact ⟨⟨pw.pd.box.fr HF3.out (fun hk => by have := hrow r hk; omega), h0.kept hf h0.row (by decide), pw.pd.len, pw.pd.near⟩, hf⟩
  exact ⟨g, cap, w3, hap, pw3, HO3.out, fun ts u hu => isTs_grow hu row (by decide) HF3.out, fun ls u hu => isLs_grow hu row (by decide) (by decide) HF3.out⟩

theorem litL_lt {L : List Wd} {a : Nat} {x : Sy.Lit} {t : List Wd} (h : litL (L.drop a) = .ok (x, t)) : a < L.length := by
  by_cases hl : a < L.length
  · exact hl
  · rw [drop_end L a (by omega)] at h
    cases h
end Go.Proofs.Ytdmhajeaphnebaa.Rp
namespace Go.Proofs.Ytdmhajeaphnebaa.Rp
open Go.RowKit
open Lx (Wd tx cellsW wpList_append_run bs scanAt frontAt Rw)
open Vl (Tm Fr)
open Sy

/-- What Scan gives, in one form. -/
theorem scan2 (s : ByteArray) (w : World) (hs : s.size ≤ 4000) :
    Calls Try.prog 25 #[.string s] w fun e w' => ∃ (v : Value) (E : Nat), e = .returned (.tuple #[v, .int .i64 (E : Int)]) ∧ Rw 86 w w' v (frontAt (bs s) 0) ∧ ((E = 0 ∧ ¬ scanAt (bs s) 0 = none) ∨ (E = 4 ∧ scanAt (bs s) 0 = none)) := by
  refine (Lx.rscan_any s w hs).mono ?_
  rintro e w' (⟨v, L, h1, rfl, hr⟩ | ⟨h1, v, rfl, hr⟩)
  · refine ⟨v, 0, rfl, ?_, Or.inl ⟨rfl, by rw [h1]; simp⟩⟩
    rw [Lx.frontAt_of_scan h1]
    exact hr
  · exact ⟨v, 4, rfl, hr, Or.inr ⟨rfl, h1⟩⟩

/-- What atom gives, in one form. -/
theorem Lr_one {R : Re Sy.Lit} {r : Nat} {v : Value} {L : List Wd} {a : Nat} {w : World} {x : Ending} {w' : World} (h : Lr R r v L a w x w') :
    ∃ (k : Int) (nm : ByteArray) (ao : Option Addr) (m cap a' e : Nat), x = .returned (.agg #[.int .i64 k, .string nm, .slice ao m cap]) ∧ Pd w' r v L a' e ∧ a' ≤ L.length + 1 ∧
      ((e = 0 ∧ a < a' ∧ a' ≤ L.length ∧ ∃ ts, isTs w' ts (.slice ao m cap) ∧ R = .ok ((k, nm, ts), L.drop a')) ∨ (∃ c, e = codeN c ∧ R = .error c)) ∧ Fr (fun k => k = r) w w' := by
  obtain ⟨h, hf⟩ := h
  cases R with
  | error c =>
    obtain ⟨y, a', rfl, ⟨k, nm, ao, m, cap, rfl⟩, hp, hl⟩ := h
    exact ⟨k, nm, ao, m, cap, a', _, rfl, hp, hl, Or.inr ⟨c, rfl, rfl⟩, hf⟩
  | ok p =>
    obtain ⟨⟨k, nm, ts⟩, rest⟩ := p
    obtain ⟨y, a', rfl, ⟨va, rfl, hts⟩, hp, hd, h1, h2⟩ := h
    obtain ⟨_, ao, cap, rfl⟩ := own_len hts
    exact ⟨k, nm, ao, ts.length, cap, a', 0, rfl, hp, by omega, Or.inl ⟨rfl, h1, h2, ts, hts, by rw [hd]⟩, hf⟩

theorem clause_err {L : List Wd} {a : Nat} {c : Bool} (h : atomL termW (L.drop a) = .error c) : clauseL (L.drop a) = .error c := by rw [clauseL_eq, h]
theorem clause_bare {L : List Wd} {a a' : Nat} {l : Sy.Lit} (hL : ∀ x ∈ L, OkW x) (h : atomL termW (L.drop a) = .ok (l, L.drop a')) (hs : signB [58, 45] (L.drop a') = false) : clauseL (L.drop a) = endR l [] (L.drop a') := by
  rw [sign_take hL a' [58, 45] (by decide) rfl] at hs
  rw [clauseL_eq, h]
  simp only []
  rw [if_neg (by rw [hs]; decide), takeR, if_neg (by rw [hs]; decide)]
theorem clause_body {L : List Wd} {a a' : Nat} {l : Sy.Lit} (hL : ∀ x ∈ L, OkW x) (h : atomL termW (L.drop a) = .ok (l, L.drop a')) (hs : signB [58, 45] (L.drop a') = true) : clauseL (L.drop a) = bodyR l (listL litL 6 (L.drop (a' + 1))) := by
  rw [sign_take hL a' [58, 45] (by decide) rfl] at hs
  rw [clauseL_eq, h]
  simp only []
  rw [if_pos hs, takeR, if_pos hs, drop_tail]

set_option maxRecDepth 10000 in
set_option maxHeartbeats 20000000 in
theorem rprogram_any (s : ByteArray) (w : World) (hs : s.size ≤ 4000) :
    Calls Try.prog 14 #[.string s] w fun e w' => Pg (progL 30 (wordsL (bs s))) w e w' := by
  have HSc := hide (scan2 s w hs)
  have hfo := front_ok _ ((bs s).drop 0) 0 (Nat.le_refl _)
  have HL : Hid (∀ x ∈ frontAt (bs s) 0, OkW x) := hfo.1
  have hlen : (frontAt (bs s) 0).length ≤ 4000 := by
    have h1 : (frontAt (bs s) 0).length ≤ ((bs s).drop 0).length := hfo.2
    rw [List.length_drop, Lx.bs_length] at h1
    omega
  have HPF := hide (prog_front (bs s) 30)
  clear hfo
  obtain ⟨R0, hR0⟩ : ∃ R0, progL 30 (wordsL (bs s)) = R0 := ⟨_, rfl⟩
  rw [hR0] at HPF ⊢
  clear hR0
  obtain ⟨L, hL⟩ : ∃ L, frontAt (bs s) 0 = L := ⟨_, rfl⟩
  rw [hL] at HSc HL hlen HPF
  clear hL
  go_enter Try.func14, Try.ntmps14
  go_wp2_with fail
  refine Calls.mono HSc.out ?_
  rintro e w1 ⟨v, E, rfl, hrw, hE⟩
  obtain ⟨ao, cap, rfl, _⟩ := hrw.slice
  have gE : ((E : Int) == 8) = false := by rcases hE with ⟨h, _⟩ | ⟨h, _⟩ <;> subst h <;> rfl
  have HE := hide hE
  have HB1 := hide hrw.below
  have hsz1 := hrw.below.size
  have hPd : Pd (w1.alloc (.cells #[.slice ao L.length cap, .int .i64 0, .int .i64 0] 69)) w1.heap.size (.slice ao L.length cap) L 0 0 :=
    ⟨Bx.new w1 _ _, Vl.own_zero (hrw.row.alloc _), by omega, by omega⟩
  have HP := hide hPd
  have HBW : Hid (Below w.heap.size w (w1.alloc (.cells #[.slice ao L.length cap, .int .i64 0, .int .i64 0] 69))) := hrw.below.alloc hsz1 _
  clear HSc hrw hE hPd
  go_wp2_with fail
  have hszW : w1.heap.size < (w1.alloc (.cells #[.slice ao L.length cap, .int .i64 0, .int .i64 0] 69)).heap.size := by simp
  generalize w1.alloc (.cells #[.slice ao L.length cap, .int .i64 0, .int .i64 0] 69) = W0 at *
  obtain ⟨r, hr⟩ : ∃ r, w1.heap.size = r := ⟨_, rfl⟩
  rw [hr] at HP hszW ⊢
  have HRr : Hid (w.heap.size ≤ r) := by rw [← hr]; exact hsz1
  clear hr HB1 hsz1
  have LO : Hid (Lp W0 r (.slice ao L.length cap) L W0 0 0 (.slice none 0 0) 0 []) :=
    ⟨Pw.refl HP.out, ⟨by simp, .inl ⟨rfl, rfl⟩⟩, by omega, by omega, Or.inl ⟨rfl, by omega, by omega, [], rfl, rfl, by simp, (joinP_nil _).symm⟩⟩
  go_loopw [7] (fun y wr => ∃ a e n xs, Hid (Lp W0 r (.slice ao L.length cap) L wr a e y n xs)) (fun _ wr => ms r L.length wr)
  case atStart => exact ⟨_, _, _, _, LO⟩
  case round =>
    obtain ⟨a, e, n, xs, HO⟩ := hrel
    clear LO
    obtain ⟨⟨c0, c1, c2⟩, f0, f1, f2⟩ := HO.out.pw.pd.box.three
    obtain ⟨_, aoy, capy, rfl⟩ := own_len HO.out.row
    rcases HO.out.st with ⟨rfl, haL, hn30, HST⟩ | ⟨c, he, hRc⟩
    · have HST := hide HST
      by_cases hlt : a < L.length
      · have hltI : (a : Int) < (L.length : Int) := by omega
        have hms : Hid (ms r L.length wr = L.length + 3 - a) := ms_ok HO.out.pw.pd
        go_wp2_with fail
        go_big_quiet (fail)
        have P6 := hide (HO.out.pw.below (Sy.below_drewN wr nq))
        have O6 := hide (Lx.own_below HO.out.row (Sy.below_drewN wr nq))
        have M6 : Hid (∃ zs : List (Rul × Value × Value), n = zs.length ∧ xs = cellsRz zs ∧ (∀ z ∈ zs, isTs (wr.drewN nq) z.1.1.2.2 z.2.1 ∧ isLs (wr.drewN nq) z.1.2 z.2.2) ∧ progL 30 L = joinP (zs.map (·.1)) (progL (30 - zs.length) (L.drop a))) := by
          obtain ⟨zs, h1, h2, h3, h4⟩ := HST.out
          exact ⟨zs, h1, h2, fun z hz => ⟨isTs_below (h3 z hz).1 (Sy.below_drewN _ _), isLs_below (h3 z hz).2 (Sy.below_drewN _ _)⟩, h4⟩
        clear HO HST c0 c1 c2 f0 f1 f2
        generalize wr.drewN nq = W6 at *
        have HT := hide (atom_any P6.out.pd HL.out haL)
        obtain ⟨R, hR⟩ : ∃ R, Hid (atomL termW (L.drop a) = R) := ⟨_, rfl⟩
        rw [hR.out] at HT
        go_wp2_with fail
        refine Calls.mono HT.out ?_
        intro z w2 hz
        obtain ⟨k, nm, aoa, ma, capa, a2, e2, rfl, hp2, hle2, hst2, hf2⟩ := Lr_one hz
        have P2 := hide (P6.out.then hp2 hf2)
        have O2 := hide (P6.out.pd.kept hf2 O6.out (by decide))
        have M2 : Hid (∃ zs : List (Rul × Value × Value), n = zs.length ∧ xs = cellsRz zs ∧ (∀ z ∈ zs, isTs w2 z.1.1.2.2 z.2.1 ∧ isLs w2 z.1.2 z.2.2) ∧ progL 30 L = joinP (zs.map (·.1)) (progL (30 - zs.length) (L.drop a))) := by
          obtain ⟨zs, h1, h2, h3, h4⟩ := M6.out
          exact ⟨zs, h1, h2, fun z hz => ⟨P6.out.pd.isTs hf2 (h3 z hz).1, P6.out.pd.isLs hf2 (h3 z hz).2⟩, h4⟩
        have H2 := hide hp2
        have HS2 := hide hst2
        have hr2 : r < w2.heap.size := hp2.lt
        clear HT hz hp2 hst2 hf2 P6 O6 M6
        have P3 := hide ((Pw.refl H2.out).alloc (.cells #[.int .i64 k, .string nm, .slice aoa ma capa, .slice none 0 0] 60))
        have B3 := hide (Bx.new w2 #[.int .i64 k, .string nm, .slice aoa ma capa, .slice none 0 0] 60)
        have HS := hide (sign_any P3.out.pd [58, 45])
        have c2 := P3.out.pd.box.three.1.2.2
        go_upto_region 8 with fail
        obtain ⟨b, hb⟩ : ∃ b, Hid (b = (signB [58, 45] (L.drop a2) && decide (e2 = 0))) := ⟨_, rfl⟩
        generalize w2.alloc (.cells #[.int .i64 k, .string nm, .slice aoa ma capa, .slice none 0 0] 60) = W3 at *
        go_cut [49] from 21 to 110 (fun s wc => s = .bool b ∧ ∃ n, wc = W3.drewN n)
        case first =>
          go_wp2_with fail
          refine Calls.mono HS.out ?_
          rintro z3 w3 ⟨rfl, n3, rfl⟩
          cases hsg : signB [58, 45] (L.drop a2)
          · go_wp2_with fail
            go_meet
            exact ⟨by rw [hb.out, hsg]; rfl, _, rfl⟩
          · by_cases he0 : e2 = 0
            · have g0 : ((e2 : Int) == 0) = true := by simp; omega
              have HB0 : Hid (b = true) := by show _ = _; rw [hb.out, hsg]; simp [he0]
              clear he0 hb
              go_wp2_with fail
              go_meet
              exact ⟨by rw [HB0.out], _, rfl⟩
            · have g0 : ((e2 : Int) == 0) = false := by simp; omega
              have HB0 : Hid (b = false) := by show _ = _; rw [hb.out, hsg]; simp [he0]
              clear he0 hb
              go_wp2_with fail
              go_meet
              exact ⟨by rw [HB0.out], _, rfl⟩
        case rest =>
          obtain ⟨rfl, n3, hw3⟩ := hcut
          have P4 : Hid (Pw w2 r (.slice ao L.length cap) L a2 e2 wc) := by rw [hw3]; exact P3.out.below (Sy.below_drewN _ n3)
          have B4 : Hid (Bx wc w2.heap.size 60 #[.int .i64 k, .string nm, .slice aoa ma capa, .slice none 0 0]) := by rw [hw3]; exact B3.out.below (Sy.below_drewN _ n3)
          clear hw3 P3 B3 HS c2
          go_upto_if 49 with fail
          go_cut [9] from 21 to 110 (fun s9 wd => ∃ a5 e5 aob mb capb, Hid (Lt w2 r (.slice ao L.length cap) L a wd a5 e5 k nm aoa ma capa aob mb capb))
          case first =>
            cases b with
            | false =>
              have LT : Hid (Lt w2 r (.slice ao L.length cap) L a wc a2 e2 k nm aoa ma capa none 0 0) := by
                refine ⟨P4.out, B4.out, hle2, ?_⟩
                rcases HS2.out with ⟨he, h1, h2, ts, hts, hR2⟩ | ⟨c, he, hR2⟩
                · refine Or.inl ⟨he, h1, h2, ts, [], H2.out.isTs P4.out.fr hts, isLs_nil _, clause_bare HL.out (hR.out.trans hR2) ?_⟩
                  have := hb.out
                  rw [he] at this
                  simpa using this.symm
                · exact Or.inr ⟨c, he, clause_err (hR.out.trans hR2)⟩
              go_wp2_with fail
              go_meet
              exact ⟨_, _, _, _, _, LT⟩
            | true =>
              obtain ⟨hsg, he0⟩ : signB [58, 45] (L.drop a2) = true ∧ e2 = 0 := by
                have := hb.out.symm
                simpa using this
              subst he0
              obtain ⟨hh1, hh2, ts, hts, hR2⟩ : a < a2 ∧ a2 ≤ L.length ∧ ∃ ts, isTs w2 ts (.slice aoa ma capa) ∧ R = .ok ((k, nm, ts), L.drop a2) := by
                rcases HS2.out with ⟨_, h1, h2, h3⟩ | ⟨c, he, _⟩
                · exact ⟨h1, h2, h3⟩
                · cases c <;> cases he
              have hl3 := sign_lt hsg
              have HCl := hide (clause_body HL.out (hR.out.trans hR2) hsg)
              have HTs := hide hts
              obtain ⟨⟨c0, c1, c2⟩, f0, f1, f2⟩ := P4.out.pd.box.three
              have hst := P4.out.pd.stepI (by omega)
              have P5 := hide (P4.out.then hst.1 hst.2)
              have B5 := hide (B4.out.fr hst.2 (by omega))
              have LB : Hid (Lb w2 r (.slice ao L.length cap) L (a2 + 1) k nm (.slice aoa ma capa) (wc.setCell ⟨r, 1, none⟩ (.int .i64 ((a2 : Int) + 1))) (a2 + 1) 0 (.slice none 0 0) 0 []) :=
                ⟨P5.out, B5.out, ⟨by simp, .inl ⟨rfl, rfl⟩⟩, by omega, by omega, Or.inl ⟨rfl, by omega, by omega, by omega, [], rfl, rfl, by simp, (joinR_nil _).symm⟩⟩
              clear hst P5 B5 P4 B4 hsg hts hR2 hb
              go_wp2_with fail
              go_loopw [] (fun wx => ∃ a' e' yb nb xb, Hid (Lb w2 r (.slice ao L.length cap) L (a2 + 1) k nm (.slice aoa ma capa) wx a' e' yb nb xb)) (fun wx => ms r L.length wx)
              case atStart => exact ⟨_, _, _, _, _, LB⟩
              case round =>
                obtain ⟨a', e', yb, nb, xb, HI⟩ := hrel
                clear LB c0 c1 c2 f0 f1 f2
                obtain ⟨⟨c0, c1, c2⟩, f0, f1, f2⟩ := HI.out.pw.pd.box.three
                obtain ⟨⟨d0, d1, d2, d3⟩, g0, g1, g2, g3⟩ := HI.out.rul.four
                obtain ⟨_, aob, capb, rfl⟩ := own_len HI.out.row
                rcases HI.out.st with ⟨rfl, hab, haL2, hn6, hzb⟩ | ⟨c, he5, hLc⟩
                · have hms2 : Hid (ms r L.length wr = L.length + 3 - a') := ms_ok HI.out.pw.pd
                  have hrb : ¬ w2.heap.size = r := by omega
                  have HT := hide (literal_any HI.out.pw.pd HL.out haL2)
                  obtain ⟨R2, hR3⟩ : ∃ R2, Hid (litL (L.drop a') = R2) := ⟨_, rfl⟩
                  rw [hR3.out] at HT
                  go_wp2_with fail
                  refine Calls.mono HT.out ?_
                  intro z6 w6 hz6
                  obtain ⟨k6, nm6, ao6, m6, cap6, a6, e6, rfl, hp6, hle6, hst6, hf6⟩ := Lr_one hz6
                  have P6 := hide (HI.out.pw.then hp6 hf6)
                  have B6 := hide (HI.out.rul.fr hf6 hrb)
                  have O6 := hide (HI.out.pw.pd.kept hf6 HI.out.row (by decide))
                  have Z6 : Hid (∃ zb : List (Sy.Lit × Value), nb = zb.length ∧ xb = cellsLz zb ∧ (∀ z ∈ zb, isTs w6 z.1.2.2 z.2) ∧ listL litL 6 (L.drop (a2 + 1)) = joinR (zb.map (·.1)) (listL litL (6 - zb.length) (L.drop a'))) := by
                    obtain ⟨zb, h1, h2, h3, h4⟩ := hzb
                    exact ⟨zb, h1, h2, fun z hz => HI.out.pw.pd.isTs hf6 (h3 z hz), h4⟩
                  have p2 := fun o => (P6.out.alloc o).pd.box.three.1.2.2
                  have l3 := fun o => (B6.out.below (Lx.below_box w6 o)).four.1.2.2.2
                  have hsz6 := P6.out.fr.size
                  clear HT hz6 hp6 hf6 HI hzb c0 c1 c2 f0 f1 f2 d0 d1 d2 d3 g0 g1 g2 g3
                  rcases hst6 with ⟨he6, h61, h62, ts6, hts6, hR4⟩ | ⟨c, he6, hR4⟩
                  · subst he6
                    have HT6 := hide hts6
                    have HR4 := hide (hR3.out.trans hR4)
                    clear hts6 hR4 hR3
                    by_cases hfull : nb = 6
                    · have gf : ((nb : Int) == 6) = true := by simp; omega
                      have HRe : Hid (listL litL 6 (L.drop (a2 + 1)) = .error true) := by
                        obtain ⟨zb, h1, h2, h3, h4⟩ := Z6.out
                        show _ = _
                        rw [h4, show 6 - zb.length = 0 by omega, listL_zero HR4.out]
                        rfl
                      have TB : Hid (Bx (w6.alloc (.cells #[.int .i64 k6, .string nm6, .slice ao6 m6 cap6] 57)) w6.heap.size 57 #[.int .i64 k6, .string nm6, .slice ao6 m6 cap6]) := Bx.new w6 _ _
                      have HB := hide (bad_any (P6.out.alloc (.cells #[.int .i64 k6, .string nm6, .slice ao6 m6 cap6] 57)).pd 8)
                      have B6' := hide (B6.out.below (Lx.below_box w6 (.cells #[.int .i64 k6, .string nm6, .slice ao6 m6 cap6] 57)))
                      have O6' := hide (O6.out.alloc (.cells #[.int .i64 k6, .string nm6, .slice ao6 m6 cap6] 57))
                      clear hfull
                      go_wp2_with fail
                      refine Calls.mono HB.out ?_
                      rintro zb wb ⟨rfl, hpb, hfb⟩
                      simp only [if_true] at hpb
                      have Pb := hide ((P6.out.alloc (.cells #[.int .i64 k6, .string nm6, .slice ao6 m6 cap6] 57)).then hpb hfb)
                      have Bb := hide (B6'.out.fr hfb hrb)
                      have Ob := hide ((P6.out.alloc (.cells #[.int .i64 k6, .string nm6, .slice ao6 m6 cap6] 57)).pd.kept hfb O6'.out (by decide))
                      obtain ⟨⟨v0, v1, v2⟩, _, _, _⟩ := (TB.out.fr hfb (by omega)).three
                      obtain ⟨g7, cap7, w7, hap, hst7, HL7⟩ := Lb_push H2.out Pb.out Bb.out Ob.out hn6 k6 nm6 ao6 m6 cap6
                      obtain ⟨s7, s8⟩ := hst7
                      have lb3 := Bb.out.four.1.2.2.2
                      clear hpb hfb HB TB Bb Ob B6' O6' l3 p2 P6 B6 O6
                      go_wp2_with (at_builtin; refine wpList_append_run _ rfl (.tmp 78) (.tmp 80) 58 58 rfl _ _ rfl rfl (hap _) ?_)
                      have HS := hide (sign_any HL7.out.1.pd [44])
                      clear hap s7 s8 lb3 v0 v1 v2
                      refine Calls.mono HS.out ?_
                      rintro z8 w8 ⟨rfl, n8, hw8⟩
                      have LB8 : Hid (Lb w2 r (.slice ao L.length cap) L (a2 + 1) k nm (.slice aoa ma capa) w8 a6 8 (.slice (some ⟨g7, 0, none⟩) (nb + 1) cap7) (nb + 1) (xb ++ [.int .i64 k6, .string nm6, .slice ao6 m6 cap6])) := by
                        rw [hw8]
                        have hb := Sy.below_drewN (w7.setCell ⟨w2.heap.size, 3, none⟩ (.slice (some ⟨g7, 0, none⟩) (nb + 1) cap7)) n8
                        exact ⟨HL7.out.1.below hb, HL7.out.2.1.below hb, Lx.own_below HL7.out.2.2.1 hb, by omega, by omega, Or.inr ⟨true, rfl, HRe.out⟩⟩
                      clear HL7 HS hw8
                      obtain ⟨⟨c0, c1, c2⟩, f0, f1, f2⟩ := LB8.out.pw.pd.box.three
                      cases hsg : signB [44] (L.drop a6)
                      · have LT : Hid (Lt w2 r (.slice ao L.length cap) L a w8 a6 8 k nm aoa ma capa (some ⟨g7, 0, none⟩) (nb + 1) cap7) := ⟨LB8.out.pw, LB8.out.rul, LB8.out.le, Or.inr ⟨true, rfl, by rw [HCl.out, HRe.out]; rfl⟩⟩
                        go_wp2_with fail
                        go_meet
                        exact ⟨_, _, _, _, _, LT⟩
                      · have hl9 := sign_lt hsg
                        have hst := LB8.out.pw.pd.stepI (by omega)
                        have LB9 : Hid (Lb w2 r (.slice ao L.length cap) L (a2 + 1) k nm (.slice aoa ma capa) (w8.setCell ⟨r, 1, none⟩ (.int .i64 (((a6 : Nat) : Int) + 1))) (a6 + 1) 8 (.slice (some ⟨g7, 0, none⟩) (nb + 1) cap7) (nb + 1) (xb ++ [.int .i64 k6, .string nm6, .slice ao6 m6 cap6])) :=
                          ⟨LB8.out.pw.then hst.1 hst.2, LB8.out.rul.fr hst.2 hrb, LB8.out.pw.pd.kept hst.2 LB8.out.row (by decide), by omega, by omega, Or.inr ⟨true, rfl, HRe.out⟩⟩
                        clear hst
                        go_wp2_with fail
                        go_roundw
                        case rel => exact ⟨_, _, _, _, _, LB9⟩
                        case measure =>
                          refine Nat.lt_of_le_of_lt (Nat.le_of_eq (ms_err LB9.out.pw.pd (by decide))) ?_
                          rw [hms2.out]
                          omega
                    · have gf : ((nb : Int) == 6) = false := by simp; omega
                      obtain ⟨g7, cap7, w7, hap, hst7, HL7⟩ := Lb_push H2.out (P6.out.alloc (.cells #[.int .i64 k6, .string nm6, .slice ao6 m6 cap6] 57)) (B6.out.below (Lx.below_box w6 _)) (O6.out.alloc _) hn6 k6 nm6 ao6 m6 cap6
                      obtain ⟨s7, s8⟩ := hst7
                      have hap' : ∀ ty, (Builtin.append_ #[58, 58] ty #[.slice aob nb capb, .slice (some ⟨w6.heap.size + 1, 0, none⟩) 1 1]).run Try.prog ((w6.alloc (.cells #[.int .i64 k6, .string nm6, .slice ao6 m6 cap6] 57)).alloc (.cells #[.int .i64 k6, .string nm6, .slice ao6 m6 cap6] 57)) = .ok (.slice (some ⟨g7, 0, none⟩) (nb + 1) cap7) w7 := fun ty => by
                        have := hap ty
                        simpa using this
                      go_wp2_with (at_builtin; refine wpList_append_run _ rfl (.tmp 78) (.tmp 80) 58 58 rfl _ _ rfl rfl (hap' _) ?_)
                      have HS := hide (sign_any HL7.out.1.pd [44])
                      clear hap hap' l3 p2 s7 s8
                      refine Calls.mono HS.out ?_
                      rintro z8 w8 ⟨rfl, n8, hw8⟩
                      obtain ⟨P8, B8, O8, Z8⟩ : Hid (Pw w2 r (.slice ao L.length cap) L a6 0 w8) ∧ Hid (Bx w8 w2.heap.size 60 #[.int .i64 k, .string nm, .slice aoa ma capa, .slice (some ⟨g7, 0, none⟩) (nb + 1) cap7]) ∧ Hid (w8.ownsRow w2.heap.size 57 3 (.slice (some ⟨g7, 0, none⟩) (nb + 1) cap7) (nb + 1) (xb ++ [.int .i64 k6, .string nm6, .slice ao6 m6 cap6])) ∧ Hid (∀ ts u, isTs w6 ts u → isTs w8 ts u) := by
                        rw [hw8]
                        have hb := Sy.below_drewN (w7.setCell ⟨w2.heap.size, 3, none⟩ (.slice (some ⟨g7, 0, none⟩) (nb + 1) cap7)) n8
                        exact ⟨HL7.out.1.below hb, HL7.out.2.1.below hb, Lx.own_below HL7.out.2.2.1 hb, fun ts u hu => isTs_below (HL7.out.2.2.2 ts u (isTs_below hu (Lx.below_box w6 _))) hb⟩
                      clear HL7 HS hw8 P6 B6 O6
                      obtain ⟨⟨c0, c1, c2⟩, f0, f1, f2⟩ := P8.out.pd.box.three
                      have HTK := hide (sign_take HL.out a6 [44] (by decide) rfl)
                      cases hsg : signB [44] (L.drop a6)
                      · rw [hsg] at HTK
                        have LT : Hid (Lt w2 r (.slice ao L.length cap) L a w8 a6 0 k nm aoa ma capa (some ⟨g7, 0, none⟩) (nb + 1) cap7) := by
                          obtain ⟨zb, h1, h2, h3, h4⟩ := Z6.out
                          refine ⟨P8.out, B8.out, by omega, Or.inl ⟨rfl, by omega, by omega, ts, (zb ++ [((k6, nm6, ts6), Value.slice ao6 m6 cap6)]).map (·.1), H2.out.isTs P8.out.fr HTs.out, ⟨_, rfl, ?_, ?_⟩, ?_⟩⟩
                          · have e1 : (zb ++ [(((k6, nm6, ts6) : Sy.Lit), Value.slice ao6 m6 cap6)]).length = nb + 1 := by simp [h1]
                            rw [e1, cellsLz_snoc, ← h2]
                            exact Vl.own_zero O8.out
                          · intro z hz
                            rcases List.mem_append.1 hz with hz | hz
                            · exact Z8.out _ _ (h3 z hz)
                            · obtain rfl : z = ((k6, nm6, ts6), Value.slice ao6 m6 cap6) := by simpa using hz
                              exact Z8.out _ _ HT6.out
                          · obtain ⟨m, hm⟩ : ∃ m, 6 - zb.length = m + 1 := ⟨6 - zb.length - 1, by omega⟩
                            rw [HCl.out, h4, hm, listL_last HR4.out HTK.out.symm, List.map_append]
                            rfl
                        go_wp2_with fail
                        go_meet
                        exact ⟨_, _, _, _, _, LT⟩
                      · rw [hsg] at HTK
                        have hl9 := sign_lt hsg
                        have hst := P8.out.pd.stepI (by omega)
                        have LB9 : Hid (Lb w2 r (.slice ao L.length cap) L (a2 + 1) k nm (.slice aoa ma capa) (w8.setCell ⟨r, 1, none⟩ (.int .i64 (((a6 : Nat) : Int) + 1))) (a6 + 1) 0 (.slice (some ⟨g7, 0, none⟩) (nb + 1) cap7) (nb + 1) (xb ++ [.int .i64 k6, .string nm6, .slice ao6 m6 cap6])) := by
                          obtain ⟨zb, h1, h2, h3, h4⟩ := Z6.out
                          refine ⟨P8.out.then hst.1 hst.2, B8.out.fr hst.2 hrb, P8.out.pd.kept hst.2 O8.out (by decide), by omega, by omega, Or.inl ⟨rfl, by omega, by omega, by omega, zb ++ [((k6, nm6, ts6), Value.slice ao6 m6 cap6)], by simp [h1], ?_, ?_, ?_⟩⟩
                          · rw [cellsLz_snoc, h2]
                          · intro z hz
                            rcases List.mem_append.1 hz with hz | hz
                            · exact P8.out.pd.isTs hst.2 (Z8.out _ _ (h3 z hz))
                            · obtain rfl : z = ((k6, nm6, ts6), Value.slice ao6 m6 cap6) := by simpa using hz
                              exact P8.out.pd.isTs hst.2 (Z8.out _ _ HT6.out)
                          · obtain ⟨m, hm⟩ : ∃ m, 6 - zb.length = m + 1 := ⟨6 - zb.length - 1, by omega⟩
                            have hm2 : 6 - (zb ++ [(((k6, nm6, ts6) : Sy.Lit), Value.slice ao6 m6 cap6)]).length = m := by simp; omega
                            rw [h4, hm, hm2, listL_more HR4.out HTK.out.symm, joinR_joinR, takeR, if_pos HTK.out.symm, drop_tail, List.map_append]
                            rfl
                        clear hst HTK
                        go_wp2_with fail
                        go_roundw
                        case rel => exact ⟨_, _, _, _, _, LB9⟩
                        case measure =>
                          refine Nat.lt_of_le_of_lt (Nat.le_of_eq (ms_ok LB9.out.pw.pd)) ?_
                          rw [hms2.out]
                          omega
                  · have he60 : ((e6 : Int) == 0) = false := by rw [he6]; cases c <;> rfl
                    have HE6 := hide he6
                    have HRe : Hid (listL litL 6 (L.drop (a2 + 1)) = .error c) := by
                      obtain ⟨zb, h1, h2, h3, h4⟩ := Z6.out
                      show _ = _
                      rw [h4, listL_err (hR3.out.trans hR4)]
                      rfl
                    obtain ⟨g7, cap7, w7, hap, hst7, HL7⟩ := Lb_push H2.out (P6.out.alloc (.cells #[.int .i64 k6, .string nm6, .slice ao6 m6 cap6] 57)) (B6.out.below (Lx.below_box w6 _)) (O6.out.alloc _) hn6 k6 nm6 ao6 m6 cap6
                    obtain ⟨s7, s8⟩ := hst7
                    have hap' : ∀ ty, (Builtin.append_ #[58, 58] ty #[.slice aob nb capb, .slice (some ⟨w6.heap.size + 1, 0, none⟩) 1 1]).run Try.prog ((w6.alloc (.cells #[.int .i64 k6, .string nm6, .slice ao6 m6 cap6] 57)).alloc (.cells #[.int .i64 k6, .string nm6, .slice ao6 m6 cap6] 57)) = .ok (.slice (some ⟨g7, 0, none⟩) (nb + 1) cap7) w7 := fun ty => by
                      have := hap ty
                      simpa using this
                    clear he6 hR4 hR3
                    go_wp2_with (at_builtin; refine wpList_append_run _ rfl (.tmp 78) (.tmp 80) 58 58 rfl _ _ rfl rfl (hap' _) ?_)
                    have HS := hide (sign_any HL7.out.1.pd [44])
                    clear hap hap' l3 p2 s7 s8 P6 B6 O6
                    refine Calls.mono HS.out ?_
                    rintro z8 w8 ⟨rfl, n8, hw8⟩
                    have LB8 : Hid (Lb w2 r (.slice ao L.length cap) L (a2 + 1) k nm (.slice aoa ma capa) w8 a6 e6 (.slice (some ⟨g7, 0, none⟩) (nb + 1) cap7) (nb + 1) (xb ++ [.int .i64 k6, .string nm6, .slice ao6 m6 cap6])) := by
                      rw [hw8]
                      have hb := Sy.below_drewN (w7.setCell ⟨w2.heap.size, 3, none⟩ (.slice (some ⟨g7, 0, none⟩) (nb + 1) cap7)) n8
                      exact ⟨HL7.out.1.below hb, HL7.out.2.1.below hb, Lx.own_below HL7.out.2.2.1 hb, by omega, by omega, Or.inr ⟨c, HE6.out, HRe.out⟩⟩
                    clear HL7 HS hw8
                    obtain ⟨⟨c0, c1, c2⟩, f0, f1, f2⟩ := LB8.out.pw.pd.box.three
                    cases hsg : signB [44] (L.drop a6)
                    · have LT : Hid (Lt w2 r (.slice ao L.length cap) L a w8 a6 e6 k nm aoa ma capa (some ⟨g7, 0, none⟩) (nb + 1) cap7) := ⟨LB8.out.pw, LB8.out.rul, LB8.out.le, Or.inr ⟨c, HE6.out, by rw [HCl.out, HRe.out]; rfl⟩⟩
                      go_wp2_with fail
                      go_meet
                      exact ⟨_, _, _, _, _, LT⟩
                    · have hl9 := sign_lt hsg
                      have hst := LB8.out.pw.pd.stepI (by omega)
                      have LB9 : Hid (Lb w2 r (.slice ao L.length cap) L (a2 + 1) k nm (.slice aoa ma capa) (w8.setCell ⟨r, 1, none⟩ (.int .i64 (((a6 : Nat) : Int) + 1))) (a6 + 1) e6 (.slice (some ⟨g7, 0, none⟩) (nb + 1) cap7) (nb + 1) (xb ++ [.int .i64 k6, .string nm6, .slice ao6 m6 cap6])) :=
                        ⟨LB8.out.pw.then hst.1 hst.2, LB8.out.rul.fr hst.2 hrb, LB8.out.pw.pd.kept hst.2 LB8.out.row (by decide), by omega, by omega, Or.inr ⟨c, HE6.out, HRe.out⟩⟩
                      clear hst
                      go_wp2_with fail
                      go_roundw
                      case rel => exact ⟨_, _, _, _, _, LB9⟩
                      case measure =>
                        refine Nat.lt_of_le_of_lt (Nat.le_of_eq (ms_err LB9.out.pw.pd (by rw [HE6.out]; cases c <;> decide))) ?_
                        rw [hms2.out]
                        omega
                · have he50 : ((e' : Int) == 0) = false := by rw [he5]; cases c <;> rfl
                  have LT : Hid (Lt w2 r (.slice ao L.length cap) L a wr a' e' k nm aoa ma capa aob nb capb) := ⟨HI.out.pw, HI.out.rul, HI.out.le, Or.inr ⟨c, he5, by rw [HCl.out, hLc]; rfl⟩⟩
                  clear hLc he5
                  go_wp2_with fail
                  go_meet
                  exact ⟨_, _, _, _, _, LT⟩
          case rest =>
            obtain ⟨a5, e5, aob, mb, capb, HLT⟩ := hcut
            have hne : Hid (L.drop a ≠ []) := by
              intro e0
              have := congrArg List.length e0
              rw [List.length_drop] at this
              simp at this
              omega
            have hrb : ¬ w2.heap.size = r := by omega
            clear P4 B4 hb HS2 hR
            rcases HLT.out.st with ⟨rfl, h51, h52, hcl⟩ | ⟨c, he5, hcl⟩
            · have HCL := hide hcl
              have HEa := hide (eat_any HLT.out.pw.pd [46] (by omega))
              clear hcl
              go_wp2_with fail
              refine Calls.mono HEa.out ?_
              rintro z9 w9 ⟨rfl, ⟨a9, hp9, ha9, hb9⟩, hf9⟩
              have F9 := hide (HLT.out.pw.fr.trans hf9 (fun _ _ e => e))
              have B9 := hide (HLT.out.rul.fr hf9 hrb)
              have O9 := hide (H2.out.kept F9.out O2.out (by decide))
              obtain ⟨⟨d0, d1, d2, d3⟩, g0, g1, g2, g3⟩ := B9.out.four
              have HTK := hide (sign_take HL.out a5 [46] (by decide) rfl)
              cases hsg : signB [46] (L.drop a5)
              · rw [hsg, if_neg (by decide)] at hp9
                rw [hsg] at HTK
                have P9 := hide (P2.out.then hp9 F9.out)
                have HRe : Hid (progL 30 L = .error false) := by
                  obtain ⟨zs, h1, h2, h3, h4⟩ := M2.out
                  obtain ⟨ts, ls, _, _, h5⟩ := HCL.out
                  rw [endR, if_neg (by rw [← HTK.out]; decide)] at h5
                  show _ = _
                  rw [h4, progL_err hne.out h5]
                  rfl
                obtain ⟨g7, cap7, w7, hap, HL7⟩ := Lp_push HP.out P9.out O9.out hn30 k nm aoa ma capa aob mb capb
                have LP : Hid (Lp W0 r (.slice ao L.length cap) L w7 a9 4 (.slice (some ⟨g7, 0, none⟩) (n + 1) cap7) (n + 1) (xs ++ [.int .i64 k, .string nm, .slice aoa ma capa, .slice aob mb capb])) :=
                  ⟨HL7.out.1, HL7.out.2.1, by omega, by omega, Or.inr ⟨false, rfl, HRe.out⟩⟩
                obtain ⟨⟨c0, c1, c2⟩, f0, f1, f2⟩ := P9.out.pd.box.three
                clear hp9 hf9 HEa HLT HL7
                go_wp2_with (at_builtin; refine wpList_append_run _ rfl (.tmp 107) (.tmp 109) 23 23 rfl _ _ rfl rfl (hap _) ?_)
                go_roundw
                case rel => exact ⟨_, _, _, _, LP⟩
                case measure =>
                  refine Nat.lt_of_le_of_lt (Nat.le_of_eq (ms_err LP.out.pw.pd (by decide))) ?_
                  rw [hms.out]
                  omega
              · rw [hsg, if_pos rfl] at hp9
                rw [hsg] at HTK
                have h9 := ha9 hsg
                subst h9
                have hl9 := sign_lt hsg
                have P9 := hide (P2.out.then hp9 F9.out)
                obtain ⟨⟨c0, c1, c2⟩, f0, f1, f2⟩ := P9.out.pd.box.three
                have HCR : Hid (∃ (ts : List Tm) (ls : List Sy.Lit), isTs w9 ts (.slice aoa ma capa) ∧ isLs w9 ls (.slice aob mb capb) ∧ clauseL (L.drop a) = .ok (((k, nm, ts), ls), L.drop (a5 + 1))) := by
                  obtain ⟨ts, ls, q1, q2, h5⟩ := HCL.out
                  refine ⟨ts, ls, HLT.out.pw.pd.isTs hf9 q1, HLT.out.pw.pd.isLs hf9 q2, ?_⟩
                  rw [h5, endR, if_pos HTK.out.symm, takeR, if_pos HTK.out.symm, drop_tail]
                clear hp9 hf9 HEa HLT HCL HTK
                by_cases hfull : n = 30
                · have gf : ((n : Int) == 30) = true := by simp; omega
                  have HRe : Hid (progL 30 L = .error true) := by
                    obtain ⟨zs, h1, h2, h3, h4⟩ := M2.out
                    obtain ⟨ts, ls, _, _, h5⟩ := HCR.out
                    show _ = _
                    rw [h4, show 30 - zs.length = 0 by omega, progL_zero hne.out h5]
                    rfl
                  have HB := hide (bad_any P9.out.pd 8)
                  clear hfull
                  go_wp2_with fail
                  refine Calls.mono HB.out ?_
                  rintro zb wb ⟨rfl, hpb, hfb⟩
                  simp only [if_true] at hpb
                  have Pb := hide (P9.out.then hpb hfb)
                  have Ob := hide (P9.out.pd.kept hfb O9.out (by decide))
                  have Bb := hide (B9.out.fr hfb hrb)
                  clear c0 c1 c2 f0 f1 f2 d0 d1 d2 d3 g0 g1 g2 g3 hpb hfb HB
                  obtain ⟨⟨d0, d1, d2, d3⟩, g0, g1, g2, g3⟩ := Bb.out.four
                  obtain ⟨g7, cap7, w7, hap, HL7⟩ := Lp_push HP.out Pb.out Ob.out hn30 k nm aoa ma capa aob mb capb
                  have LP : Hid (Lp W0 r (.slice ao L.length cap) L w7 (a5 + 1) 8 (.slice (some ⟨g7, 0, none⟩) (n + 1) cap7) (n + 1) (xs ++ [.int .i64 k, .string nm, .slice aoa ma capa, .slice aob mb capb])) :=
                    ⟨HL7.out.1, HL7.out.2.1, by omega, by omega, Or.inr ⟨true, rfl, HRe.out⟩⟩
                  clear HL7
                  go_wp2_with (at_builtin; refine wpList_append_run _ rfl (.tmp 107) (.tmp 109) 23 23 rfl _ _ rfl rfl (hap _) ?_)
                  go_roundw
                  case rel => exact ⟨_, _, _, _, LP⟩
                  case measure =>
                    refine Nat.lt_of_le_of_lt (Nat.le_of_eq (ms_err LP.out.pw.pd (by decide))) ?_
                    rw [hms.out]
                    omega
                · have gf : ((n : Int) == 30) = false := by simp; omega
                  obtain ⟨g7, cap7, w7, hap, HL7⟩ := Lp_push HP.out P9.out O9.out hn30 k nm aoa ma capa aob mb capb
                  have LP : Hid (Lp W0 r (.slice ao L.length cap) L w7 (a5 + 1) 0 (.slice (some ⟨g7, 0, none⟩) (n + 1) cap7) (n + 1) (xs ++ [.int .i64 k, .string nm, .slice aoa ma capa, .slice aob mb capb])) := by
                    obtain ⟨zs, h1, h2, h3, h4⟩ := M2.out
                    obtain ⟨ts, ls, q1, q2, h5⟩ := HCR.out
                    refine ⟨HL7.out.1, HL7.out.2.1, by omega, by omega, Or.inl ⟨rfl, by omega, by omega, zs ++ [(((k, nm, ts), ls), .slice aoa ma capa, .slice aob mb capb)], by simp [h1], ?_, ?_, ?_⟩⟩
                    · rw [cellsRz_snoc, h2]
                    · intro z hz
                      rcases List.mem_append.1 hz with hz | hz
                      · exact ⟨HL7.out.2.2.1 _ _ (H2.out.isTs F9.out (h3 z hz).1), HL7.out.2.2.2 _ _ (H2.out.isLs F9.out (h3 z hz).2)⟩
                      · obtain rfl : z = (((k, nm, ts), ls), .slice aoa ma capa, .slice aob mb capb) := by simpa using hz
                        exact ⟨HL7.out.2.2.1 _ _ q1, HL7.out.2.2.2 _ _ q2⟩
                    · obtain ⟨m, hm⟩ : ∃ m, 30 - zs.length = m + 1 := ⟨30 - zs.length - 1, by omega⟩
                      have hm2 : 30 - (zs ++ [((((k, nm, ts), ls) : Rul), Value.slice aoa ma capa, Value.slice aob mb capb)]).length = m := by simp; omega
                      rw [h4, hm, hm2, progL_more hne.out h5, joinP_joinP, List.map_append]
                      rfl
                  clear HL7 hfull
                  go_wp2_with (at_builtin; refine wpList_append_run _ rfl (.tmp 107) (.tmp 109) 23 23 rfl _ _ rfl rfl (hap _) ?_)
                  go_roundw
                  case rel => exact ⟨_, _, _, _, LP⟩
                  case measure =>
                    refine Nat.lt_of_le_of_lt (Nat.le_of_eq (ms_ok LP.out.pw.pd)) ?_
                    rw [hms.out]
                    omega
            · have HEa := hide (eat_err HLT.out.pw.pd (by rw [he5]; cases c <;> decide) [46])
              have he50 : ((e5 : Int) == 0) = false := by rw [he5]; cases c <;> rfl
              have HE5 := hide he5
              have HCL := hide hcl
              clear hcl he5
              go_wp2_with fail
              refine Calls.mono HEa.out ?_
              rintro z9 w9 ⟨rfl, hw9⟩
              have hw9' := hw9.symm
              subst hw9'
              clear hw9 HEa
              have P9 := hide (P2.out.then HLT.out.pw.pd HLT.out.pw.fr)
              have O9 := hide (H2.out.kept HLT.out.pw.fr O2.out (by decide))
              obtain ⟨⟨d0, d1, d2, d3⟩, g0, g1, g2, g3⟩ := HLT.out.rul.four
              obtain ⟨⟨c0, c1, c2⟩, f0, f1, f2⟩ := P9.out.pd.box.three
              have HRe : Hid (progL 30 L = .error c) := by
                obtain ⟨zs, h1, h2, h3, h4⟩ := M2.out
                show _ = _
                rw [h4, progL_err hne.out HCL.out]
                rfl
              obtain ⟨g7, cap7, w7, hap, HL7⟩ := Lp_push HP.out P9.out O9.out hn30 k nm aoa ma capa aob mb capb
              have LP : Hid (Lp W0 r (.slice ao L.length cap) L w7 a5 e5 (.slice (some ⟨g7, 0, none⟩) (n + 1) cap7) (n + 1) (xs ++ [.int .i64 k, .string nm, .slice aoa ma capa, .slice aob mb capb])) :=
                ⟨HL7.out.1, HL7.out.2.1, by omega, HLT.out.le, Or.inr ⟨c, HE5.out, HRe.out⟩⟩
              clear HL7 HLT
              go_wp2_with (at_builtin; refine wpList_append_run _ rfl (.tmp 107) (.tmp 109) 23 23 rfl _ _ rfl rfl (hap _) ?_)
              go_roundw
              case rel => exact ⟨_, _, _, _, LP⟩
              case measure =>
                refine Nat.lt_of_le_of_lt (Nat.le_of_eq (ms_err LP.out.pw.pd (by rw [HE5.out]; cases c <;> decide))) ?_
                rw [hms.out]
                omega
      · have hltI : decide ((a : Int) < (L.length : Int)) = false := by simp; omega
        go_wp2_with fail
        go_big_quiet (fail)
        have P6 := hide (HO.out.pw.below (Sy.below_drewN wr nq))
        have O6 := hide (Lx.own_below HO.out.row (Sy.below_drewN wr nq))
        have M6 : Hid (∃ zs : List (Rul × Value × Value), n = zs.length ∧ xs = cellsRz zs ∧ (∀ z ∈ zs, isTs (wr.drewN nq) z.1.1.2.2 z.2.1 ∧ isLs (wr.drewN nq) z.1.2 z.2.2) ∧ progL 30 L = .ok (zs.map (·.1))) := by
          obtain ⟨zs, h1, h2, h3, h4⟩ := HST.out
          refine ⟨zs, h1, h2, fun z hz => ⟨isTs_below (h3 z hz).1 (Sy.below_drewN _ _), isLs_below (h3 z hz).2 (Sy.below_drewN _ _)⟩, ?_⟩
          rw [h4, drop_end L a (by omega), progL_nil]
          show Except.ok _ = _
          simp
        clear HO HST c0 c1 c2 f0 f1 f2
        generalize wr.drewN nq = W6 at *
        have HBd := hide (bad_any P6.out.pd E)
        go_wp2_with fail
        refine Calls.mono HBd.out ?_
        rintro z7 w7 ⟨rfl, hp7, hf7⟩
        simp only [if_true] at hp7
        have P7 := hide (P6.out.then hp7 hf7)
        have O7 := hide (P6.out.pd.kept hf7 O6.out (by decide))
        have M7 : Hid (∃ zs : List (Rul × Value × Value), n = zs.length ∧ xs = cellsRz zs ∧ (∀ z ∈ zs, isTs w7 z.1.1.2.2 z.2.1 ∧ isLs w7 z.1.2 z.2.2) ∧ progL 30 L = .ok (zs.map (·.1))) := by
          obtain ⟨zs, h1, h2, h3, h4⟩ := M6.out
          exact ⟨zs, h1, h2, fun z hz => ⟨P6.out.pd.isTs hf7 (h3 z hz).1, P6.out.pd.isLs hf7 (h3 z hz).2⟩, h4⟩
        clear HBd hp7 hf7 P6 O6 M6
        obtain ⟨⟨c0, c1, c2⟩, f0, f1, f2⟩ := P7.out.pd.box.three
        have hF : Hid (Below w.heap.size w w7) := HBW.out.trans (P7.out.fr.below (fun k hk => by rw [hk]; exact HRr.out) (by have := HRr.out; omega))
        have hF2 : Hid (w.heap.size ≤ w7.heap.size) := Nat.le_trans (by have := HRr.out; omega) P7.out.fr.size
        rcases HE.out with ⟨hE0, hne⟩ | ⟨hE4, hno⟩
        · subst hE0
          go_wp2_with fail
          go_ret2
          obtain ⟨zs, h1, h2, h3, h4⟩ := M7.out
          rw [HPF.out, if_neg hne, h4]
          refine ⟨⟨_, rfl, zs, rfl, ?_, h3⟩, hF.out⟩
          rw [← h1, ← h2]
          exact Vl.own_zero O7.out
        · subst hE4
          go_wp2_with fail
          go_big_quiet (fail)
          go_wp2_with fail
          go_ret2
          obtain ⟨zs, h1, h2, h3, h4⟩ := M7.out
          rw [HPF.out, if_pos hno, h4]
          exact ⟨rfl, hF.out.trans ((Sy.below_drewN w7 _).mono hF2.out)⟩
    · have he0 : ((e : Int) == 0) = false := by rw [he]; cases c <;> rfl
      have HRc := hide hRc
      have HEc := hide he
      clear hRc he
      go_wp2_with fail
      go_big_quiet (fail)
      have P6 := hide (HO.out.pw.below (Sy.below_drewN wr nq))
      clear HO c0 c1 c2 f0 f1 f2
      generalize wr.drewN nq = W6 at *
      have HBd := hide (bad_any P6.out.pd E)
      go_wp2_with fail
      refine Calls.mono HBd.out ?_
      rintro z7 w7 ⟨rfl, hp7, hf7⟩
      rw [if_neg (by rw [HEc.out]; cases c <;> decide)] at hp7
      have P7 := hide (P6.out.then hp7 hf7)
      clear HBd hp7 hf7 P6
      obtain ⟨⟨c0, c1, c2⟩, f0, f1, f2⟩ := P7.out.pd.box.three
      have he1 : ((e : Int) != 0) = true := by rw [HEc.out]; cases c <;> rfl
      go_wp2_with fail
      go_big_quiet (fail)
      go_wp2_with fail
      go_ret2
      have hR : R0 = .error c := by
        rw [HPF.out, HRc.out]
        split <;> rfl
      rw [hR]
      refine ⟨by rw [HEc.out]; cases c <;> rfl, ?_⟩
      have hF : Below w.heap.size W0 w7 := P7.out.fr.below (fun k hk => by rw [hk]; exact HRr.out) (by have := HRr.out; omega)
      exact (HBW.out.trans hF).trans ((Sy.below_drewN w7 _).mono (Nat.le_trans (by have := HRr.out; omega) P7.out.fr.size))
end Go.Proofs.Ytdmhajeaphnebaa.Rp
namespace Go.Proofs.Ytdmhajeaphnebaa.Ck
open Go.RowKit
open Lx (Wd tx bs scanL scanL_nil scanL_cons blankN sizeL kindL scanAt)
open Vl (Tm Fr)
open Sy

theorem step_word (c : UInt8) (t : List UInt8) (a n k : Nat) (x r : List UInt8) (L : List Wd) (h1 : blankN c.toNat = false) (h2 : ¬ c.toNat = 37) (h3 : sizeL (c :: t) = n) (h4 : ¬ (n = 0 ∨ 16 < n)) (h5 : t.drop (n - 1) = r) (h6 : kindL (c :: t) = k) (h7 : (c :: t).take n = x) (h8 : scanL r (a + n) = some L) : scanL (c :: t) a = some ((k, x, a) :: L) := by
  rw [scanL_cons, if_neg (by rw [h1]; decide), if_neg h2, h3, if_neg h4, h5, h6, h7, h8]
  rfl
theorem step_blank (c : UInt8) (t : List UInt8) (a : Nat) (L : List Wd) (h1 : blankN c.toNat = true) (h8 : scanL t (a + 1) = some L) : scanL (c :: t) a = some L := by
  rw [scanL_cons, if_pos h1, h8]

theorem beg1 : scanL [112, 40, 88, 41, 32, 58, 45, 32, 113, 40, 88, 41, 44, 32, 33, 114, 40, 88, 41, 46, 32, 112, 40, 89, 41, 32, 58, 45, 32, 113, 40, 88, 41, 44, 32, 89, 32, 60, 32, 88, 46] 0 = some [(1, [112], 0), (4, [40], 1), (2, [88], 2), (4, [41], 3), (4, [58, 45], 5), (1, [113], 8), (4, [40], 9), (2, [88], 10), (4, [41], 11), (4, [44], 12), (4, [33], 14), (1, [114], 15), (4, [40], 16), (2, [88], 17), (4, [41], 18), (4, [46], 19), (1, [112], 21), (4, [40], 22), (2, [89], 23), (4, [41], 24), (4, [58, 45], 26), (1, [113], 29), (4, [40], 30), (2, [88], 31), (4, [41], 32), (4, [44], 33), (2, [89], 35), (4, [60], 37), (2, [88], 39), (4, [46], 40)] := by
  have s40 := step_word 46 [] 40 1 4 [46] _ _ (by decide) (by decide) (by decide) (by decide) rfl (by decide) rfl (scanL_nil 41)
  have s39 := step_word 88 [46] 39 1 2 [88] _ _ (by decide) (by decide) (by decide) (by decide) rfl (by decide) rfl s40
  have s38 := step_blank 32 [88, 46] 38 _ (by decide) s39
  have s37 := step_word 60 [32, 88, 46] 37 1 4 [60] _ _ (by decide) (by decide) (by decide) (by decide) rfl (by decide) rfl s38
  have s36 := step_blank 32 [60, 32, 88, 46] 36 _ (by decide) s37
  have s35 := step_word 89 [32, 60, 32, 88, 46] 35 1 2 [89] _ _ (by decide) (by decide) (by decide) (by decide) rfl (by decide) rfl s36
  have s34 := step_blank 32 [89, 32, 60, 32, 88, 46] 34 _ (by decide) s35
  have s33 := step_word 44 [32, 89, 32, 60, 32, 88, 46] 33 1 4 [44] _ _ (by decide) (by decide) (by decide) (by decide) rfl (by decide) rfl s34
  have s32 := step_word 41 [44, 32, 89, 32, 60, 32, 88, 46] 32 1 4 [41] _ _ (by decide) (by decide) (by decide) (by decide) rfl (by decide) rfl s33
  have s31 := step_word 88 [41, 44, 32, 89, 32, 60, 32, 88, 46] 31 1 2 [88] _ _ (by decide) (by decide) (by decide) (by decide) rfl (by decide) rfl s32
  have s30 := step_word 40 [88, 41, 44, 32, 89, 32, 60, 32, 88, 46] 30 1 4 [40] _ _ (by decide) (by decide) (by decide) (by decide) rfl (by decide) rfl s31
  have s29 := step_word 113 [40, 88, 41, 44, 32, 89, 32, 60, 32, 88, 46] 29 1 1 [113] _ _ (by decide) (by decide) (by decide) (by decide) rfl (by decide) rfl s30
  have s28 := step_blank 32 [113, 40, 88, 41, 44, 32, 89, 32, 60, 32, 88, 46] 28 _ (by decide) s29
  have s26 := step_word 58 [45, 32, 113, 40, 88, 41, 44, 32, 89, 32, 60, 32, 88, 46] 26 2 4 [58, 45] _ _ (by decide) (by decide) (by decide) (by decide) rfl (by decide) rfl s28
  have s25 := step_blank 32 [58, 45, 32, 113, 40, 88, 41, 44, 32, 89, 32, 60, 32, 88, 46] 25 _ (by decide) s26
  have s24 := step_word 41 [32, 58, 45, 32, 113, 40, 88, 41, 44, 32, 89, 32, 60, 32, 88, 46] 24 1 4 [41] _ _ (by decide) (by decide) (by decide) (by decide) rfl (by decide) rfl s25
  have s23 := step_word 89 [41, 32, 58, 45, 32, 113, 40, 88, 41, 44, 32, 89, 32, 60, 32, 88, 46] 23 1 2 [89] _ _ (by decide) (by decide) (by decide) (by decide) rfl (by decide) rfl s24
  have s22 := step_word 40 [89, 41, 32, 58, 45, 32, 113, 40, 88, 41, 44, 32, 89, 32, 60, 32, 88, 46] 22 1 4 [40] _ _ (by decide) (by decide) (by decide) (by decide) rfl (by decide) rfl s23
  have s21 := step_word 112 [40, 89, 41, 32, 58, 45, 32, 113, 40, 88, 41, 44, 32, 89, 32, 60, 32, 88, 46] 21 1 1 [112] _ _ (by decide) (by decide) (by decide) (by decide) rfl (by decide) rfl s22
  have s20 := step_blank 32 [112, 40, 89, 41, 32, 58, 45, 32, 113, 40, 88, 41, 44, 32, 89, 32, 60, 32, 88, 46] 20 _ (by decide) s21
  have s19 := step_word 46 [32, 112, 40, 89, 41, 32, 58, 45, 32, 113, 40, 88, 41, 44, 32, 89, 32, 60, 32, 88, 46] 19 1 4 [46] _ _ (by decide) (by decide) (by decide) (by decide) rfl (by decide) rfl s20
  have s18 := step_word 41 [46, 32, 112, 40, 89, 41, 32, 58, 45, 32, 113, 40, 88, 41, 44, 32, 89, 32, 60, 32, 88, 46] 18 1 4 [41] _ _ (by decide) (by decide) (by decide) (by decide) rfl (by decide) rfl s19
  have s17 := step_word 88 [41, 46, 32, 112, 40, 89, 41, 32, 58, 45, 32, 113, 40, 88, 41, 44, 32, 89, 32, 60, 32, 88, 46] 17 1 2 [88] _ _ (by decide) (by decide) (by decide) (by decide) rfl (by decide) rfl s18
  have s16 := step_word 40 [88, 41, 46, 32, 112, 40, 89, 41, 32, 58, 45, 32, 113, 40, 88, 41, 44, 32, 89, 32, 60, 32, 88, 46] 16 1 4 [40] _ _ (by decide) (by decide) (by decide) (by decide) rfl (by decide) rfl s17
  have s15 := step_word 114 [40, 88, 41, 46, 32, 112, 40, 89, 41, 32, 58, 45, 32, 113, 40, 88, 41, 44, 32, 89, 32, 60, 32, 88, 46] 15 1 1 [114] _ _ (by decide) (by decide) (by decide) (by decide) rfl (by decide) rfl s16
  have s14 := step_word 33 [114, 40, 88, 41, 46, 32, 112, 40, 89, 41, 32, 58, 45, 32, 113, 40, 88, 41, 44, 32, 89, 32, 60, 32, 88, 46] 14 1 4 [33] _ _ (by decide) (by decide) (by decide) (by decide) rfl (by decide) rfl s15
  have s13 := step_blank 32 [33, 114, 40, 88, 41, 46, 32, 112, 40, 89, 41, 32, 58, 45, 32, 113, 40, 88, 41, 44, 32, 89, 32, 60, 32, 88, 46] 13 _ (by decide) s14
  have s12 := step_word 44 [32, 33, 114, 40, 88, 41, 46, 32, 112, 40, 89, 41, 32, 58, 45, 32, 113, 40, 88, 41, 44, 32, 89, 32, 60, 32, 88, 46] 12 1 4 [44] _ _ (by decide) (by decide) (by decide) (by decide) rfl (by decide) rfl s13
  have s11 := step_word 41 [44, 32, 33, 114, 40, 88, 41, 46, 32, 112, 40, 89, 41, 32, 58, 45, 32, 113, 40, 88, 41, 44, 32, 89, 32, 60, 32, 88, 46] 11 1 4 [41] _ _ (by decide) (by decide) (by decide) (by decide) rfl (by decide) rfl s12
  have s10 := step_word 88 [41, 44, 32, 33, 114, 40, 88, 41, 46, 32, 112, 40, 89, 41, 32, 58, 45, 32, 113, 40, 88, 41, 44, 32, 89, 32, 60, 32, 88, 46] 10 1 2 [88] _ _ (by decide) (by decide) (by decide) (by decide) rfl (by decide) rfl s11
  have s9 := step_word 40 [88, 41, 44, 32, 33, 114, 40, 88, 41, 46, 32, 112, 40, 89, 41, 32, 58, 45, 32, 113, 40, 88, 41, 44, 32, 89, 32, 60, 32, 88, 46] 9 1 4 [40] _ _ (by decide) (by decide) (by decide) (by decide) rfl (by decide) rfl s10
  have s8 := step_word 113 [40, 88, 41, 44, 32, 33, 114, 40, 88, 41, 46, 32, 112, 40, 89, 41, 32, 58, 45, 32, 113, 40, 88, 41, 44, 32, 89, 32, 60, 32, 88, 46] 8 1 1 [113] _ _ (by decide) (by decide) (by decide) (by decide) rfl (by decide) rfl s9
  have s7 := step_blank 32 [113, 40, 88, 41, 44, 32, 33, 114, 40, 88, 41, 46, 32, 112, 40, 89, 41, 32, 58, 45, 32, 113, 40, 88, 41, 44, 32, 89, 32, 60, 32, 88, 46] 7 _ (by decide) s8
  have s5 := step_word 58 [45, 32, 113, 40, 88, 41, 44, 32, 33, 114, 40, 88, 41, 46, 32, 112, 40, 89, 41, 32, 58, 45, 32, 113, 40, 88, 41, 44, 32, 89, 32, 60, 32, 88, 46] 5 2 4 [58, 45] _ _ (by decide) (by decide) (by decide) (by decide) rfl (by decide) rfl s7
  have s4 := step_blank 32 [58, 45, 32, 113, 40, 88, 41, 44, 32, 33, 114, 40, 88, 41, 46, 32, 112, 40, 89, 41, 32, 58, 45, 32, 113, 40, 88, 41, 44, 32, 89, 32, 60, 32, 88, 46] 4 _ (by decide) s5
  have s3 := step_word 41 [32, 58, 45, 32, 113, 40, 88, 41, 44, 32, 33, 114, 40, 88, 41, 46, 32, 112, 40, 89, 41, 32, 58, 45, 32, 113, 40, 88, 41, 44, 32, 89, 32, 60, 32, 88, 46] 3 1 4 [41] _ _ (by decide) (by decide) (by decide) (by decide) rfl (by decide) rfl s4
  have s2 := step_word 88 [41, 32, 58, 45, 32, 113, 40, 88, 41, 44, 32, 33, 114, 40, 88, 41, 46, 32, 112, 40, 89, 41, 32, 58, 45, 32, 113, 40, 88, 41, 44, 32, 89, 32, 60, 32, 88, 46] 2 1 2 [88] _ _ (by decide) (by decide) (by decide) (by decide) rfl (by decide) rfl s3
  have s1 := step_word 40 [88, 41, 32, 58, 45, 32, 113, 40, 88, 41, 44, 32, 33, 114, 40, 88, 41, 46, 32, 112, 40, 89, 41, 32, 58, 45, 32, 113, 40, 88, 41, 44, 32, 89, 32, 60, 32, 88, 46] 1 1 4 [40] _ _ (by decide) (by decide) (by decide) (by decide) rfl (by decide) rfl s2
  have s0 := step_word 112 [40, 88, 41, 32, 58, 45, 32, 113, 40, 88, 41, 44, 32, 33, 114, 40, 88, 41, 46, 32, 112, 40, 89, 41, 32, 58, 45, 32, 113, 40, 88, 41, 44, 32, 89, 32, 60, 32, 88, 46] 0 1 1 [112] _ _ (by decide) (by decide) (by decide) (by decide) rfl (by decide) rfl s1
  exact s0

def begT : ByteArray := ⟨#[112, 40, 88, 41, 32, 58, 45, 32, 113, 40, 88, 41, 44, 32, 33, 114, 40, 88, 41, 46, 32, 112, 40, 89, 41, 32, 58, 45, 32, 113, 40, 88, 41, 44, 32, 89, 32, 60, 32, 88, 46]⟩
def varT (x : List UInt8) : Tm := (1, tx x, 0)
def begR : List Rul := [((1, tx [112], [varT [88]]), [(1, tx [113], [varT [88]]), (2, tx [114], [varT [88]])]), ((1, tx [112], [varT [89]]), [(1, tx [113], [varT [88]]), (5, ⟨#[]⟩, [varT [89], varT [88]])])]
theorem parse1 : progL 30 [(1, [112], 0), (4, [40], 1), (2, [88], 2), (4, [41], 3), (4, [58, 45], 5), (1, [113], 8), (4, [40], 9), (2, [88], 10), (4, [41], 11), (4, [44], 12), (4, [33], 14), (1, [114], 15), (4, [40], 16), (2, [88], 17), (4, [41], 18), (4, [46], 19), (1, [112], 21), (4, [40], 22), (2, [89], 23), (4, [41], 24), (4, [58, 45], 26), (1, [113], 29), (4, [40], 30), (2, [88], 31), (4, [41], 32), (4, [44], 33), (2, [89], 35), (4, [60], 37), (2, [88], 39), (4, [46], 40)] = .ok begR := by kernel_rfl

/-- The rules of a text; none: it is no program. -/
def okRs : Except Bool (List Rul) → List Rul
  | .ok l => l
  | .error _ => []
def rulesS (s : ByteArray) : List Rul := okRs (progL 30 (wordsL (bs (Lx.cutS s 1200))))
theorem beg_rules : rulesS begT = begR := by
  have h1 : wordsL (bs begT) = [(1, [112], 0), (4, [40], 1), (2, [88], 2), (4, [41], 3), (4, [58, 45], 5), (1, [113], 8), (4, [40], 9), (2, [88], 10), (4, [41], 11), (4, [44], 12), (4, [33], 14), (1, [114], 15), (4, [40], 16), (2, [88], 17), (4, [41], 18), (4, [46], 19), (1, [112], 21), (4, [40], 22), (2, [89], 23), (4, [41], 24), (4, [58, 45], 26), (1, [113], 29), (4, [40], 30), (2, [88], 31), (4, [41], 32), (4, [44], 33), (2, [89], 35), (4, [60], 37), (2, [88], 39), (4, [46], 40)] := by
    have h2 : scanAt (bs begT) 0 = some [(1, [112], 0), (4, [40], 1), (2, [88], 2), (4, [41], 3), (4, [58, 45], 5), (1, [113], 8), (4, [40], 9), (2, [88], 10), (4, [41], 11), (4, [44], 12), (4, [33], 14), (1, [114], 15), (4, [40], 16), (2, [88], 17), (4, [41], 18), (4, [46], 19), (1, [112], 21), (4, [40], 22), (2, [89], 23), (4, [41], 24), (4, [58, 45], 26), (1, [113], 29), (4, [40], 30), (2, [88], 31), (4, [41], 32), (4, [44], 33), (2, [89], 35), (4, [60], 37), (2, [88], 39), (4, [46], 40)] := beg1
    rw [wordsL, h2]
  have h3 : Lx.cutS begT 1200 = begT := by kernel_rfl
  rw [rulesS, h3, h1, parse1]
  rfl

theorem rules_any (s : ByteArray) (w : World) : Calls Try.prog 6 #[.string s] w fun e w' => (∃ y, e = .returned y ∧ isRs w' (rulesS s) y) ∧ Below w.heap.size w w' := by
  have hcs := Lx.cutS_size s 1200
  have HC := hide (Lx.cutS_any s 1200)
  obtain ⟨R, hR⟩ : ∃ R, Hid (progL 30 (wordsL (bs (Lx.cutS s 1200))) = R) := ⟨_, rfl⟩
  have HP := hide (Rp.rprogram_any (Lx.cutS s 1200) w (by omega))
  have HQ : Hid (rulesS s = okRs R) := by show _ = _; rw [rulesS, hR.out]
  rw [hR.out] at HP
  clear hR
  go_enter Try.func6, Try.ntmps6
  go_wp2_with fail
  refine Calls.mono (HC.out w) ?_
  rintro e w2 ⟨rfl, hw2⟩
  have hw2' := hw2.symm
  subst hw2'
  clear hw2 HC
  generalize Lx.cutS s 1200 = t at *
  go_wp2_with fail
  refine Calls.mono HP.out ?_
  rintro e w3 ⟨hz, hb⟩
  cases R with
  | error c =>
    obtain rfl := hz
    cases c
    all_goals simp only [Bool.false_eq_true, if_false, if_true]
    all_goals go_wp2_with fail
    all_goals go_ret
    all_goals exact ⟨⟨_, rfl, by rw [HQ.out]; exact ⟨[], rfl, ⟨by simp [cellsRz], .inl ⟨rfl, rfl⟩⟩, by simp⟩⟩, hb⟩
  | ok l =>
    obtain ⟨y, rfl, hy⟩ := hz
    obtain ⟨ao, cap, rfl⟩ := Rp.isRs_shape hy
    have HY := hide hy
    clear hy
    go_wp2_with fail
    go_ret
    exact ⟨⟨_, rfl, by rw [HQ.out]; exact HY.out⟩, hb⟩

/-- Is it the head of a rule? -/
def defR (rs : List Rul) (nm : ByteArray) : Bool := rs.any fun q => q.1.2.1.toList == nm.toList
theorem any_take {α : Type} {p : α → Bool} {ls : List α} {k : Nat} (h : k < ls.length) : (ls.take (k + 1)).any p = ((ls.take k).any p || p ls[k]) := by
  rw [List.take_succ_eq_append_getElem h, List.any_append]
  simp
theorem any_true {α : Type} {p : α → Bool} {ls : List α} {k : Nat} (h : k < ls.length) (hp : p ls[k] = true) : ls.any p = true := by
  rw [List.any_eq_true]
  exact ⟨_, List.getElem_mem h, hp⟩

end Go.Proofs.Ytdmhajeaphnebaa.Ck
namespace Go.Proofs.Ytdmhajeaphnebaa.Sy
open Go.RowKit
open Lx (Wd tx bs scanAt frontAt)
open Vl (Tm)

/-- Words that are not too long. -/
def Sh (ws : List Wd) : Prop := ∀ x ∈ ws, x.2.1.length ≤ 16
theorem Sh.tail {ws : List Wd} (h : Sh ws) : Sh ws.tail := fun x hx => h x (List.mem_of_mem_tail hx)
theorem Sh.next {ws : List Wd} (h : Sh ws) : (nextW ws).2.1.length ≤ 16 := by
  cases ws with
  | nil => simp [nextW]
  | cons x r => exact h x (by simp)
theorem tx_size (x : List UInt8) : (tx x).size = x.length := by simp [tx, ByteArray.size]
theorem term_ok {x : Wd} {t : Tm} (hx : x.2.1.length ≤ 16) (h : termW x = some t) : OkT t := by
  unfold termW at h
  split at h
  · cases h
    exact ⟨fun e => by simp at e, by rw [tx_size]; exact hx⟩
  · unfold constW at h
    split at h
    · cases h
      exact ⟨fun e => by simp at e, by rw [tx_size]; exact hx⟩
    · split at h
      · split at h
        · rename_i hb
          cases h
          exact ⟨fun _ => hb, by show (0 : Nat) ≤ 16; omega⟩
        · cases h
      · cases h
theorem termL_ok {ws : List Wd} {t : Tm} {r : List Wd} (hw : Sh ws) (h : oneL termW ws = .ok (t, r)) : OkT t ∧ Sh r := by
  unfold oneL at h
  cases hf : termW (nextW ws) with
  | none => rw [hf] at h; cases h
  | some u =>
    rw [hf] at h
    cases h
    exact ⟨term_ok hw.next hf, hw.tail⟩
theorem listL_ok {α : Type} {item : List Wd → Re α} {P : α → Prop} (hi : ∀ ws x r, Sh ws → item ws = .ok (x, r) → P x ∧ Sh r) : ∀ (n : Nat) (ws : List Wd) (l : List α) (r : List Wd), Sh ws → listL item n ws = .ok (l, r) → l.length ≤ n ∧ (∀ x ∈ l, P x) ∧ Sh r := by
  intro n
  induction n with
  | zero =>
    intro ws l r hw h
    unfold listL at h
    split at h <;> cases h
  | succ n ih =>
    intro ws l r hw h
    unfold listL at h
    split at h
    · cases h
    · rename_i x t hx
      obtain ⟨hp, ht⟩ := hi ws x t hw hx
      split at h
      · split at h
        · cases h
        · rename_i l' r' hl
          cases h
          obtain ⟨h1, h2, h3⟩ := ih _ _ _ ht.tail hl
          refine ⟨by rw [List.length_cons]; omega, fun y hy => ?_, h3⟩
          rcases List.mem_cons.1 hy with rfl | hy
          · exact hp
          · exact h2 y hy
      · cases h
        refine ⟨by simp, fun y hy => ?_, ht⟩
        rw [List.mem_singleton.1 hy]
        exact hp
theorem atomL_ok {ws : List Wd} {l : Lit} {r : List Wd} (hw : Sh ws) (h : atomL termW ws = .ok (l, r)) : OkL l ∧ l.1 = 1 ∧ Sh r := by
  unfold atomL at h
  split at h
  · split at h
    · split at h
      · cases h
      · rename_i l' r' hl
        split at h
        · cases h
          obtain ⟨h1, h2, h3⟩ := listL_ok (P := OkT) (fun ws x r hw h => termL_ok hw h) 4 _ _ _ hw.tail.tail hl
          exact ⟨⟨by rw [tx_size]; exact hw.next, h1, h2, ⟨by simp, by simp⟩, fun e => by simp at e⟩, rfl, h3.tail⟩
        · cases h
    · cases h
      exact ⟨⟨by rw [tx_size]; exact hw.next, by simp, by simp, ⟨by simp, by simp⟩, fun e => by simp at e⟩, rfl, hw.tail⟩
  · cases h
theorem kindOf_le (x : List UInt8) : kindOf x = 0 ∨ (3 ≤ kindOf x ∧ kindOf x ≤ 6) := by
  unfold kindOf
  split
  · right; omega
  · split
    · right; omega
    · split
      · right; omega
      · split
        · right; omega
        · left; rfl
theorem cmpL_ok {ws : List Wd} {l : Lit} {r : List Wd} (hw : Sh ws) (h : cmpL ws = .ok (l, r)) : OkL l ∧ Sh r := by
  unfold cmpL at h
  split at h
  · cases h
  · rename_i a t ha
    split at h
    · cases h
    · rename_i hk
      split at h
      · cases h
      · rename_i b r' hb
        cases h
        obtain ⟨h1, h2⟩ := termL_ok hw ha
        obtain ⟨h3, h4⟩ := termL_ok h2.tail hb
        rcases kindOf_le (nextW t).2.1 with h0 | ⟨h5, h6⟩
        · exact absurd h0 hk
        · refine ⟨⟨by show (0 : Nat) ≤ 16; omega, by simp, fun y hy => ?_, ⟨?_, ?_⟩, fun _ => rfl⟩, h4⟩
          · rcases List.mem_cons.1 hy with rfl | hy
            · exact h1
            · rw [List.mem_singleton.1 hy]; exact h3
          · show (1 : Int) ≤ (kindOf (nextW t).2.1 : Nat); omega
          · show ((kindOf (nextW t).2.1 : Nat) : Int) ≤ 6; omega
theorem litL_ok {ws : List Wd} {l : Lit} {r : List Wd} (hw : Sh ws) (h : litL ws = .ok (l, r)) : OkL l ∧ Sh r := by
  unfold litL at h
  split at h
  · split at h
    · cases h
    · rename_i l' r' hl
      cases h
      obtain ⟨h1, h2, h3⟩ := atomL_ok hw.tail hl
      exact ⟨⟨h1.name, h1.few, h1.terms, ⟨by simp, by simp⟩, fun e => by simp at e⟩, h3⟩
  · split at h
    · obtain ⟨h1, _, h3⟩ := atomL_ok hw h
      exact ⟨h1, h3⟩
    · exact cmpL_ok hw h
theorem clauseL_ok {ws : List Wd} {q : Rul} {r : List Wd} (hw : Sh ws) (h : clauseL ws = .ok (q, r)) : OkR q ∧ q.1.1 = 1 ∧ Sh r := by
  unfold clauseL at h
  split at h
  · cases h
  · rename_i hd t hh
    obtain ⟨h1, h2, h3⟩ := atomL_ok hw hh
    split at h
    · split at h
      · cases h
      · rename_i b r' hb
        split at h
        · cases h
          obtain ⟨k1, k2, k3⟩ := listL_ok (P := OkL) (fun ws x r hw h => litL_ok hw h) 6 _ _ _ h3.tail hb
          exact ⟨⟨h1, k2, k1⟩, h2, k3.tail⟩
        · cases h
    · split at h
      · cases h
        exact ⟨⟨h1, by simp, by simp⟩, h2, h3.tail⟩
      · cases h
theorem progL_ok : ∀ (n : Nat) (ws : List Wd) (l : List Rul), Sh ws → progL n ws = .ok l → l.length ≤ n ∧ ∀ q ∈ l, OkR q ∧ q.1.1 = 1 := by
  intro n
  induction n with
  | zero =>
    intro ws l hw h
    cases ws with
    | nil => cases h; exact ⟨Nat.le_refl _, by simp⟩
    | cons x r =>
      unfold progL at h
      split at h <;> cases h
  | succ n ih =>
    intro ws l hw h
    cases ws with
    | nil => cases h; exact ⟨by simp, by simp⟩
    | cons x t =>
      unfold progL at h
      split at h
      · cases h
      · rename_i c r hc
        obtain ⟨h1, h2, h3⟩ := clauseL_ok hw hc
        split at h
        · cases h
        · rename_i l' hl
          cases h
          obtain ⟨k1, k2⟩ := ih _ _ h3 hl
          refine ⟨by rw [List.length_cons]; omega, fun q hq => ?_⟩
          rcases List.mem_cons.1 hq with rfl | hq
          · exact ⟨h1, h2⟩
          · exact k2 q hq
theorem Sh.of {ws : List Wd} (h : ∀ x ∈ ws, OkF x) : Sh ws := fun x hx => by
  rcases h x hx with h | rfl
  · exact h.len
  · simp
end Go.Proofs.Ytdmhajeaphnebaa.Sy
namespace Go.Proofs.Ytdmhajeaphnebaa.Sy
open Lx (Wd tx scanL scanAt kindN kindL sizeL nameN varN smallN digitN runP blankN signL)
open Vl (Tm)

/-- A word without its place. -/
def z (x : Wd) : Wd := (x.1, x.2.1, 0)
/-- The words of a text, without their places. -/
def K (S : List UInt8) : Option (List Wd) := (scanL S 0).map (List.map z)
theorem K_at (n : Nat) : ∀ (S : List UInt8) (a b : Nat), S.length ≤ n → (scanL S a).map (List.map z) = (scanL S b).map (List.map z) := by
  induction n with
  | zero =>
    intro S a b hl
    obtain rfl : S = [] := by cases S; rfl; simp at hl
    rw [Lx.scanL_nil, Lx.scanL_nil]
  | succ n ih =>
    intro S a b hl
    match S with
    | [] => rw [Lx.scanL_nil, Lx.scanL_nil]
    | c :: t =>
      simp only [List.length_cons] at hl
      rw [Lx.scanL_cons, Lx.scanL_cons]
      by_cases hb : blankN c.toNat = true
      · rw [if_pos hb, if_pos hb]
        exact ih t _ _ (by omega)
      · rw [if_neg hb, if_neg hb]
        by_cases hn : c.toNat = 37
        · rw [if_pos hn, if_pos hn]
          exact ih _ _ _ (by rw [List.length_drop]; omega)
        · rw [if_neg hn, if_neg hn]
          by_cases hs : sizeL (c :: t) = 0 ∨ 16 < sizeL (c :: t)
          · rw [if_pos hs, if_pos hs]
          · rw [if_neg hs, if_neg hs]
            have h := ih (t.drop (sizeL (c :: t) - 1)) (a + sizeL (c :: t)) (b + sizeL (c :: t)) (by rw [List.length_drop]; omega)
            revert h
            cases scanL (t.drop (sizeL (c :: t) - 1)) (a + sizeL (c :: t)) <;> cases scanL (t.drop (sizeL (c :: t) - 1)) (b + sizeL (c :: t)) <;> intro h
            · rfl
            · cases h
            · cases h
            · have h' := Option.some.inj h
              simp only [Option.map_some, List.map_cons, Option.some.injEq]
              rw [h']
              rfl
theorem K_nil : K [] = some [] := by rw [K, Lx.scanL_nil]; rfl
theorem K_blank (c : UInt8) (t : List UInt8) (h : blankN c.toNat = true) : K (c :: t) = K t := by
  rw [K, Lx.scanL_cons, if_pos h]
  exact K_at _ t _ _ (Nat.le_refl _)
theorem K_word (c : UInt8) (t : List UInt8) (n k : Nat) (x : List UInt8) (h1 : blankN c.toNat = false) (h2 : ¬ c.toNat = 37) (h3 : sizeL (c :: t) = n) (h4 : ¬ (n = 0 ∨ 16 < n)) (h6 : kindL (c :: t) = k) (h7 : (c :: t).take n = x) : K (c :: t) = (K (t.drop (n - 1))).map (fun r => (k, x, 0) :: r) := by
  have e := K_at _ (t.drop (n - 1)) (0 + n) 0 (Nat.le_refl _)
  rw [K, Lx.scanL_cons, if_neg (by rw [h1]; decide), if_neg h2, h3, if_neg h4, h6, h7, K, ← e]
  cases scanL (t.drop (n - 1)) (0 + n) <;> rfl
/-- A name of one letter. -/
theorem K_name (c : UInt8) (t : List UInt8) (h : smallN c.toNat = true) (ht : t = [] ∨ nameN (t.getD 0 0).toNat = false) : K (c :: t) = (K t).map (fun r => (1, [c], 0) :: r) := by
  have hr : runP nameN t = 0 := by
    rcases ht with rfl | ht
    · rfl
    · cases t with
      | nil => rfl
      | cons d r =>
        have : nameN d.toNat = false := by simpa using ht
        simp [runP, this]
  have hk : kindL (c :: t) = 1 := by simp [kindL, kindN, h]
  have hs : sizeL (c :: t) = 1 := by
    have hn : nameN c.toNat = true := by simp [nameN, h]
    simp [sizeL, hk, runP, hn, hr]
  have hb : blankN c.toNat = false := by
    have := h
    simp [smallN] at this
    simp [blankN]
    omega
  have h37 : ¬ c.toNat = 37 := by
    have := h
    simp [smallN] at this
    omega
  exact K_word c t 1 1 [c] hb h37 hs (by omega) hk rfl
theorem K_40 (t : List UInt8) : K (40 :: t) = (K t).map (fun r => (4, [40], 0) :: r) := K_word 40 t 1 4 [40] (by decide) (by decide) rfl (by omega) rfl rfl
theorem K_41 (t : List UInt8) : K (41 :: t) = (K t).map (fun r => (4, [41], 0) :: r) := K_word 41 t 1 4 [41] (by decide) (by decide) rfl (by omega) rfl rfl
theorem K_44 (t : List UInt8) : K (44 :: t) = (K t).map (fun r => (4, [44], 0) :: r) := K_word 44 t 1 4 [44] (by decide) (by decide) rfl (by omega) rfl rfl
theorem K_46 (t : List UInt8) : K (46 :: t) = (K t).map (fun r => (4, [46], 0) :: r) := K_word 46 t 1 4 [46] (by decide) (by decide) rfl (by omega) rfl rfl
theorem K_if (t : List UInt8) : K (58 :: 45 :: t) = (K t).map (fun r => (4, [58, 45], 0) :: r) := K_word 58 (45 :: t) 2 4 [58, 45] (by decide) (by decide) rfl (by omega) rfl rfl

end Go.Proofs.Ytdmhajeaphnebaa.Sy

/- enter. look. least. settle. leave. -/
import Derived.Test.YtdmhajeaphnebaaPart12
import Derived.BigRegion
import Derived.Deep.RegionHeld3
import Derived.Deep.CutRange
import Derived.OwnWalk
import Derived.BigQuiet
namespace Go.Proofs.Ytdmhajeaphnebaa.Gr
open Go.RowKit
open Vl (Fr)
variable {w0 w w' : World} {qb : Nat} {nv pv ov mv lv sv : Value} {n cnt : Nat} {path : List (Nat × Nat)} {opn : List Nat} {met low st : Nat → Int} {nd : Nat → List (Nat × Bool)}

theorem Wk.drew (h : Wk w0 w qb nv pv ov mv lv sv n cnt path opn met low st nd) : Wk w0 w.drew qb nv pv ov mv lv sv n cnt path opn met low st nd := ⟨h.b, h.p, h.o, h.m, h.l, h.s, h.nd, h.om, h.ol, h.os, h.ml, h.ms, h.ls, h.z.drew⟩
theorem Try.info3 : (Try.prog.info? 3).map (fun i => (i.zero, i.size, i.bytes)) = some (some (.int .i64 0), 1, 8) := by kernel_rfl
theorem Try.info95 : (Try.prog.info? 95).map (fun i => (i.zero, i.size, i.bytes)) = some (some (.agg #[.int .i64 0, .int .i64 0]), 2, 16) := by kernel_rfl
set_option maxHeartbeats 4000000 in
theorem enter_any (h : Wk w0 w qb nv pv ov mv lv sv n cnt path opn met low st nd) {a : Nat} (ha : a < n) (hn : n ≤ 1000) (hc : cnt ≤ 1000) (hp : path.length ≤ 1000) (ho : opn.length ≤ 1000) :
    Calls Try.prog 40 #[.pointer (some ⟨qb, 0, none⟩), .int .i64 (a : Int)] w fun e w' => e = .returned (.tuple #[]) ∧ ∃ pv' ov', Wk w0 w' qb nv pv' ov' mv lv sv n (cnt + 1) (path ++ [(a, 0)]) (opn ++ [a]) (upd met a ((cnt + 1 : Nat) : Int)) (upd low a ((cnt + 1 : Nat) : Int)) st nd := by
  obtain ⟨gm, cm, rfl, _, _, hm, hmf⟩ := own_open h.m (by omega)
  obtain ⟨gl, cl, rfl, _, _, hl, hlf⟩ := own_open h.l (by omega)
  obtain ⟨_, _, _, c3, _, _, _⟩ := h.c
  have f3 := h.fz 3
  have hcI : (cnt : Int) ≤ 1000 := by omega
  have haI : (a : Int) < (n : Int) := by omega
  have hnI : (n : Int) ≤ 1000 := by omega
  have hml : gm ≠ gl := fun e => by subst e; exact h.ml gm rfl rfl
  obtain ⟨M, HM⟩ : ∃ M, Hid (M = cnt + 1) := ⟨_, rfl⟩
  have hM : (cnt : Int) + 1 = (M : Int) := by rw [HM.out]; omega
  have H1 := hide (h.setC M)
  have HW2 : Hid (∀ u, u = (((w.setCell ⟨qb, 3, none⟩ (.int .i64 (M : Int))).setCell ⟨gm, a, none⟩ (.int .i64 (M : Int))).setCell ⟨gl, a, none⟩ (.int .i64 (M : Int))).drew → Wk w0 u qb nv pv ov (.slice (some ⟨gm, 0, none⟩) n cm) (.slice (some ⟨gl, 0, none⟩) n cl) sv n M path opn (upd met a (M : Int)) (upd low a (M : Int)) st nd) := by
    rintro u rfl
    exact ((H1.out.setM a (M : Int)).setL a (M : Int)).drew
  obtain ⟨w1, hw1⟩ : ∃ w1, w1 = w.setCell ⟨qb, 3, none⟩ (.int .i64 (M : Int)) := ⟨_, rfl⟩
  rw [← hw1] at H1 HW2
  obtain ⟨_, _, _, d3, d4, d5, _⟩ := H1.out.c
  obtain ⟨_, _, e, _, _, hm1, hmf1⟩ := own_open H1.out.m (by omega)
  simp only [Value.slice.injEq, Option.some.injEq, Addr.mk.injEq, and_true, true_and] at e
  obtain ⟨rfl, rfl⟩ := e
  obtain ⟨_, _, e, _, _, hl1, hlf1⟩ := own_open H1.out.l (by omega)
  simp only [Value.slice.injEq, Option.some.injEq, Addr.mk.injEq, and_true, true_and] at e
  obtain ⟨rfl, rfl⟩ := e
  have xm := (hm1 a (by omega)).trans (rowI_get met ha)
  have xl := (hl1 a (by omega)).trans (rowI_get low ha)
  have fm := hmf1 a
  have fl := hlf1 a
  have xl2 : ∀ v, (w1.setCell ⟨gm, a, none⟩ v).cell? ⟨gl, a, none⟩ = some (.int .i64 (low a)) := fun v => (World.cell?_setCell_other _ _ _ _ (by first | (simp; done) | (simp; omega) | (simp [hml]; done))).trans xl
  have HW1 := hide hw1
  generalize met a = ma at xm
  generalize low a = la at xl xl2
  rw [← HM.out]
  clear hw1 hm hmf hl hlf hm1 hmf1 hl1 hlf1 h
  go_enter Try.func40, Try.ntmps40
  go_upto_region 1 with fail
  rw [← HW1.out]
  clear c3 f3
  refine wp_region_noPanic ?_
  go_region
  refine NoPanic.normal ?_
  obtain ⟨w2, hw2⟩ : ∃ w2, w2 = ((w1.setCell ⟨gm, a, none⟩ (.int .i64 (M : Int))).setCell ⟨gl, a, none⟩ (.int .i64 (M : Int))).drew := ⟨_, rfl⟩
  have H2 := hide (HW2.out w2 hw2)
  rw [← hw2]
  clear hw2 d3 d4 d5 xm xl xl2 fm fl HW1 HW2 H1
  obtain ⟨_, _, e2, _, _, _, _⟩ := H2.out.c
  have ef2 := H2.out.fz 2
  obtain ⟨go, co, w3, hr, k1, k2, k3⟩ := push_row 34 3 1 8 _ Try.underlying34 Try.info3 rfl (by decide) (by decide) H2.out.o [.int .i64 (a : Int)] rfl (by simp [Value.oneCell']) (by omega)
  have hoq : ¬ ov.ownBlock = some qb := own_ty H2.out.o H2.out.b (by decide)
  have e3 := k2.out.cell e2 hoq
  have ef3 := (k2.out.frozen e2 hoq).trans ef2
  have H4 := hide (H2.out.pushO a k1.out k2.out k3.out)
  obtain ⟨w4, hw4⟩ : ∃ w4, w4 = w3.setCell ⟨qb, 2, none⟩ (.slice (some ⟨go, 0, none⟩) (opn.length + 1) co) := ⟨_, rfl⟩
  rw [← hw4] at H4
  have HW4 := hide hw4
  obtain ⟨L, HL⟩ : ∃ L, Hid (L = opn.length + 1) := ⟨_, rfl⟩
  rw [← HL.out] at hr HW4 H4
  clear hw4 k1 k2 k3
  go_upto_region 3 with (at_builtin; refine Lx.wpList_append_run _ rfl (.tmp 35) (.tmp 37) 34 34 rfl _ _ rfl rfl (hr _) ?_)
  rw [← HW4.out]
  clear e2 ef2 e3 ef3 hr HW4
  obtain ⟨_, e1, _, _, _, _, _⟩ := H4.out.c
  have ef1 := H4.out.fz 1
  obtain ⟨gp, cp, w5, hr, k1, k2, k3⟩ := push_row 76 95 2 16 _ Try.underlying76 Try.info95 rfl (by decide) (by decide) H4.out.p [.int .i64 (a : Int), .int .i64 0] rfl (by simp [Value.oneCell']) (by omega)
  have hpq : ¬ pv.ownBlock = some qb := own_ty H4.out.p H4.out.b (by decide)
  have e3 := k2.out.cell e1 hpq
  have ef3 := (k2.out.frozen e1 hpq).trans ef1
  have H6 := hide (H4.out.pushP a k1.out k2.out k3.out)
  clear k1 k2 k3
  go_wp2_with (at_builtin; refine Lx.wpList_append_run _ rfl (.tmp 45) (.tmp 48) 76 76 rfl _ _ rfl rfl (hr _) ?_)
  exact bodyPost_end (res0 rfl _ _) rfl ⟨rfl, _, _, H6.out⟩
end Go.Proofs.Ytdmhajeaphnebaa.Gr
namespace Go.Proofs.Ytdmhajeaphnebaa.Gr
open Go.RowKit
open Vl (Fr)
variable {w0 w w' : World} {qb : Nat} {nv pv ov mv lv sv : Value} {n cnt : Nat} {path : List (Nat × Nat)} {opn : List Nat} {met low st : Nat → Int} {nd : Nat → List (Nat × Bool)}

set_option maxHeartbeats 4000000 in
theorem look_new (h : Wk w0 w qb nv pv ov mv lv sv n cnt path opn met low st nd) {a b : Nat} (hb : b < n) (hn : n ≤ 1000) (hc : cnt ≤ 1000) (hp : path.length ≤ 1000) (ho : opn.length ≤ 1000) (hm : met b = 0) :
    Calls Try.prog 41 #[.pointer (some ⟨qb, 0, none⟩), .int .i64 (a : Int), .int .i64 (b : Int)] w fun e w' => e = .returned (.tuple #[]) ∧ ∃ pv' ov', Wk w0 w' qb nv pv' ov' mv lv sv n (cnt + 1) (path ++ [(b, 0)]) (opn ++ [b]) (upd met b ((cnt + 1 : Nat) : Int)) (upd low b ((cnt + 1 : Nat) : Int)) st nd := by
  have HE := hide (enter_any h hb hn hc hp ho)
  obtain ⟨gm, cm, rfl, _, _, hm1, _⟩ := own_open h.m (by omega)
  obtain ⟨_, _, _, _, c4, _, _⟩ := h.c
  have hbI : (b : Int) < (n : Int) := by omega
  have hnI : (n : Int) ≤ 1000 := by omega
  have xm := (hm1 b (by omega)).trans (rowI_get met hb)
  rw [hm] at xm
  clear hm1 h
  go_enter Try.func41, Try.ntmps41
  go_upto_region 1 with fail
  go_wp2_with fail
  refine HE.out.mono ?_
  rintro _ w5 ⟨rfl, pv', ov', H5⟩
  go_wp2_with fail
  exact bodyPost_end (res0 rfl _ _) rfl ⟨rfl, _, _, H5⟩
set_option maxHeartbeats 4000000 in
theorem look_old (h : Wk w0 w qb nv pv ov mv lv sv n cnt path opn met low st nd) {a b : Nat} (hb : b < n) (hn : n ≤ 1000) (hm : met b ≠ 0) (hs : st b ≠ -1) :
    Calls Try.prog 41 #[.pointer (some ⟨qb, 0, none⟩), .int .i64 (a : Int), .int .i64 (b : Int)] w fun e w' => e = .returned (.tuple #[]) ∧ Wk w0 w' qb nv pv ov mv lv sv n cnt path opn met low st nd := by
  have H0 := hide h
  obtain ⟨gm, cm, rfl, _, _, hm1, _⟩ := own_open h.m (by omega)
  obtain ⟨gs, cs, rfl, _, _, hs1, _⟩ := own_open h.s (by omega)
  obtain ⟨_, _, _, _, c4, _, c6⟩ := h.c
  have hbI : (b : Int) < (n : Int) := by omega
  have hnI : (n : Int) ≤ 1000 := by omega
  have xm := (hm1 b (by omega)).trans (rowI_get met hb)
  have xs := (hs1 b (by omega)).trans (rowI_get st hb)
  generalize met b = mb at xm hm
  generalize st b = sb at xs hs
  clear hm1 hs1 h
  go_enter Try.func41, Try.ntmps41
  go_wp2_with fail
  exact bodyPost_end (res0 rfl _ _) rfl ⟨rfl, H0.out⟩
set_option maxHeartbeats 4000000 in
theorem look_low (h : Wk w0 w qb nv pv ov mv lv sv n cnt path opn met low st nd) {a b : Nat} (ha : a < n) (hb : b < n) (hn : n ≤ 1000) (hm : met b ≠ 0) (hs : st b = -1) :
    Calls Try.prog 41 #[.pointer (some ⟨qb, 0, none⟩), .int .i64 (a : Int), .int .i64 (b : Int)] w fun e w' => e = .returned (.tuple #[]) ∧ Wk w0 w' qb nv pv ov mv lv sv n cnt path opn met (upd low a (min (low a) (met b))) st nd := by
  obtain ⟨gm, cm, rfl, _, _, hm1, _⟩ := own_open h.m (by omega)
  obtain ⟨gs, cs, rfl, _, _, hs1, _⟩ := own_open h.s (by omega)
  obtain ⟨gl, cl, rfl, _, _, hl1, hlf⟩ := own_open h.l (by omega)
  obtain ⟨_, _, _, _, c4, c5, c6⟩ := h.c
  have hbI : (b : Int) < (n : Int) := by omega
  have haI : (a : Int) < (n : Int) := by omega
  have hnI : (n : Int) ≤ 1000 := by omega
  have xm := (hm1 b (by omega)).trans (rowI_get met hb)
  have xs := (hs1 b (by omega)).trans (rowI_get st hb)
  have xl := (hl1 a (by omega)).trans (rowI_get low ha)
  have fl := hlf a
  have H1 : Hid (Wk w0 ((w.setCell ⟨gl, a, none⟩ (.int .i64 (min (low a) (met b)))).drew) qb nv pv ov (.slice (some ⟨gm, 0, none⟩) n cm) (.slice (some ⟨gl, 0, none⟩) n cl) (.slice (some ⟨gs, 0, none⟩) n cs) n cnt path opn met (upd low a (min (low a) (met b))) st nd) := (h.setL a _).drew
  rw [hs] at xs
  generalize met b = mb at xm hm H1 ⊢
  generalize low a = la at xl H1 ⊢
  clear hm1 hs1 hl1 hlf h hs
  go_enter Try.func41, Try.ntmps41
  go_upto_region 3 with fail
  refine wp_region_noPanic ?_
  go_region
  refine NoPanic.normal ?_
  generalize (w.setCell ⟨gl, a, none⟩ (.int .i64 (min la mb))).drew = w2 at H1 ⊢
  clear c4 c5 c6 xm xl fl xs
  go_wp2_with fail
  exact bodyPost_end (res0 rfl _ _) rfl ⟨rfl, H1.out⟩
end Go.Proofs.Ytdmhajeaphnebaa.Gr
namespace Go.Proofs.Ytdmhajeaphnebaa.Gr
open Go.RowKit
open Vl (Fr)
open Tj (ng ng_nn)
variable {w0 w w' : World} {qb : Nat} {nv pv ov mv lv sv : Value} {n cnt : Nat} {path : List (Nat × Nat)} {opn : List Nat} {met low st : Nat → Int} {nd : Nat → List (Nat × Bool)}

/-- The least stratum above what these needs ask for. -/
structure Ls (st : Nat → Int) (E : List (Nat × Bool)) (s : Int) : Prop where
  nn : 0 ≤ s
  ub : ∀ e ∈ E, (st e.1 = -1 → e.2 = false) ∧ st e.1 + ng e.2 ≤ s
  lb : s = 0 ∨ ∃ e ∈ E, 0 ≤ st e.1 ∧ s = st e.1 + ng e.2
theorem Ls.zero (st : Nat → Int) : Ls st [] 0 := ⟨Int.le_refl _, by simp, .inl rfl⟩
theorem Ls.push {E : List (Nat × Bool)} {s : Int} (h : Ls st E s) {e : Nat × Bool} (h1 : -1 ≤ st e.1) (h2 : st e.1 = -1 → e.2 = false) : Ls st (E ++ [e]) (max s (st e.1 + ng e.2)) := by
  have hn := ng_nn e.2
  have h0 := h.nn
  refine ⟨by omega, fun x hx => ?_, ?_⟩
  · rcases List.mem_append.1 hx with hx | hx
    · have := h.ub x hx
      exact ⟨this.1, by omega⟩
    · simp at hx
      subst hx
      exact ⟨h2, by omega⟩
  · by_cases hc : s < st e.1 + ng e.2
    · right
      refine ⟨e, by simp, ?_, by omega⟩
      by_cases h3 : st e.1 = -1
      · have := h2 h3
        simp [ng, this] at hc
        omega
      · omega
    · have e' : max s (st e.1 + ng e.2) = s := by omega
      rw [e']
      rcases h.lb with h4 | ⟨x, hx, h4⟩
      · exact .inl h4
      · exact .inr ⟨x, by simp [hx], h4⟩
theorem Ls.le {E : List (Nat × Bool)} {s : Int} (h : Ls st E s) (hb : ∀ e ∈ E, st e.1 ≤ 1000) : s ≤ 1001 := by
  rcases h.lb with h1 | ⟨e, he, _, h1⟩
  · omega
  · have := hb e he
    have : ng e.2 ≤ 1 := by unfold ng; split <;> omega
    omega
theorem cellsN_get (l : List (Nat × Bool)) {k : Nat} (h : k < l.length) : (cellsN l)[k * 2]? = some (.int .i64 (l[k].1 : Int)) ∧ (cellsN l)[k * 2 + 1]? = some (.bool l[k].2) := by
  induction l generalizing k with
  | nil => simp at h
  | cons a l ih =>
    cases k with
    | zero => simp [cellsN]
    | succ k =>
      have := ih (k := k) (by simpa using h)
      simp only [cellsN, List.flatMap_cons] at this ⊢
      have e1 : (k + 1) * 2 = k * 2 + 2 := by omega
      have e2 : (k + 1) * 2 + 1 = (k * 2 + 1) + 2 := by omega
      rw [e2, e1]
      simpa using this
theorem take_flat (nd : Nat → List (Nat × Bool)) (C : List Nat) {i : Nat} (h : i < C.length) : (C.take (i + 1)).flatMap nd = (C.take i).flatMap nd ++ nd C[i] := by
  rw [List.take_succ_eq_append_getElem h, List.flatMap_append]
  simp

set_option maxHeartbeats 4000000 in
theorem least_any (h : Wk w0 w qb nv pv ov mv lv sv n cnt path opn met low st nd) {C : List Nat} {g o cap : Nat} (hC : ∀ i (hi : i < C.length), w.cell? ⟨g, o + i, none⟩ = some (num C[i])) (hCn : ∀ v ∈ C, v < n) (hCl : C.length ≤ 1000) (hn : n ≤ 1000)
    (hnd : ∀ v, v < n → (nd v).length ≤ 1000000 ∧ ∀ e ∈ nd v, e.1 < n) (hst : ∀ v, v < n → -1 ≤ st v ∧ st v ≤ 1000) :
    Calls Try.prog 61 #[.pointer (some ⟨qb, 0, none⟩), .slice (some ⟨g, o, none⟩) C.length cap] w fun e w' => Below w.heap.size w w' ∧ ((∃ s, e = .returned (.tuple #[.int .i64 s, .bool true]) ∧ Ls st (C.flatMap nd) s) ∨ (e = .returned (.tuple #[.int .i64 0, .bool false]) ∧ ∃ v ∈ C, ∃ a, (a, true) ∈ nd v ∧ st a = -1)) := by
  obtain ⟨c0, _, _, _, _, _, c6⟩ := h.c
  have H0 := hide h
  have HC := hide hC
  have HN := hide hCn
  have HD := hide hnd
  have HT := hide hst
  clear hC hCn hnd hst h
  go_enter Try.func61, Try.ntmps61
  go_wp2_with fail
  go_loopw [6, 14] (fun xv iv wr => ∃ (i : Nat) (s : Int), xv = .int .i64 s ∧ iv = .int .i64 (i : Int) ∧ i ≤ C.length ∧ 0 ≤ s ∧ s ≤ 1001 ∧ Hid (Ls st ((C.take i).flatMap nd) s ∧ Below w.heap.size w wr)) (fun _ iv _ => C.length - (intOf iv).toNat)
  case atStart => exact ⟨0, 0, rfl, rfl, Nat.zero_le _, by omega, by omega, Ls.zero st, Below.refl _ _⟩
  case round =>
    obtain ⟨i, s, rfl, rfl, hi, hs0, hs1, HI⟩ := hrel
    have d0 := cell_bel c0 HI.out.2
    have d6 := cell_bel c6 HI.out.2
    by_cases hlt : i < C.length
    · have hltI : (i : Int) < (C.length : Int) := by omega
      have hci := cell_bel (HC.out i hlt) HI.out.2
      have hvn := HN.out _ (List.getElem_mem hlt)
      have HTF := hide (take_flat nd C hlt)
      have HME := hide (List.getElem_mem hlt)
      generalize C[i] = v at *
      unfold num at hci
      obtain ⟨V, hV, hVr⟩ := H0.out.nd
      obtain ⟨gn, cn, rfl, _, _, hnc, _⟩ := own_open hV (by omega)
      have x0 := hnc v (by omega)
      rw [List.getElem?_map, List.getElem?_range hvn] at x0
      simp only [Option.map_some] at x0
      have x0 := cell_bel x0 HI.out.2
      have hr := hVr v hvn
      obtain ⟨gs, cs, rfl, _, _, hsc, _⟩ := own_open H0.out.s (by omega)
      have HSC : Hid (∀ u, u < n → w.cell? ⟨gs, u, none⟩ = some (.int .i64 (st u))) := fun u hu => (hsc u (by omega)).trans (rowI_get st hu)
      obtain ⟨hlen, hon⟩ := HD.out v hvn
      generalize V v = vv at x0 hr
      have HR := hide hr
      have HON := hide hon
      clear hnc hVr hV hr hsc hon
      obtain ⟨_, ar, capr, rfl⟩ := Sy.own_len HR.out
      have hvI : (v : Int) < (n : Int) := by omega
      have hnI : (n : Int) ≤ 1000 := by omega
      have HCn : Hid (∀ e ∈ (C.take i).flatMap nd ++ nd v, st e.1 ≤ 1000) := fun e he => by
        rcases List.mem_append.1 he with he | he
        · obtain ⟨u, hu, he⟩ := List.mem_flatMap.1 he
          have h1 := HN.out u (List.mem_of_mem_take hu)
          exact (HT.out _ ((HD.out u h1).2 e he)).2
        · exact (HT.out _ (HON.out e he)).2
      generalize hE : (C.take i).flatMap nd = E at *
      generalize hL : nd v = L at *
      go_wp2_with fail
      go_loopw [6, 26] (fun xv kv wq => ∃ (k : Nat) (t : Int), xv = .int .i64 t ∧ kv = .int .i64 (k : Int) ∧ k ≤ L.length ∧ 0 ≤ t ∧ t ≤ 1001 ∧ Hid (Ls st (E ++ L.take k) t ∧ Below w.heap.size w wq)) (fun _ kv _ => L.length - (intOf kv).toNat)
      case atStart => exact ⟨0, s, rfl, rfl, Nat.zero_le _, hs0, hs1, by simpa using HI.out.1, HI.out.2⟩
      case round =>
        obtain ⟨k, t, rfl, rfl, hk, ht0, ht1, HK⟩ := hrel
        by_cases hkt : k < L.length
        · have hktI : (k : Int) < (L.length : Int) := by omega
          obtain ⟨gr, _, e, _, _, hrc, _⟩ := own_open HR.out (by omega)
          simp only [Value.slice.injEq, true_and] at e
          obtain ⟨rfl, rfl⟩ := e
          have y0 := (hrc (k * 2) (by omega)).trans (cellsN_get L hkt).1
          have y1 := (hrc (k * 2 + 1) (by omega)).trans (cellsN_get L hkt).2
          have y0 := cell_bel y0 HK.out.2
          have y1 := cell_bel y1 HK.out.2
          have hmem := List.getElem_mem hkt
          have HTK : Hid (L.take (k + 1) = L.take k ++ [L[k]]) := List.take_succ_eq_append_getElem hkt
          generalize L[k] = e at *
          obtain ⟨on, neg⟩ := e
          have hon := HON.out _ hmem
          have z0 := cell_bel (HSC.out on hon) HK.out.2
          obtain ⟨hs2, hs3⟩ := HT.out on hon
          have d6 := cell_bel c6 HK.out.2
          have honI : (on : Int) < (n : Int) := by dsimp only at hon; omega
          have HM := hide hmem
          have HO := hide hon
          have HP : Hid ((st on = -1 → neg = false) → Ls st (E ++ L.take (k + 1)) (max t (st on + ng neg)) ∧ max t (st on + ng neg) ≤ 1001) := fun hq => by
            have h1 := HK.out.1.push (e := (on, neg)) hs2 hq
            rw [List.append_assoc, ← HTK.out] at h1
            refine ⟨h1, h1.le fun e he => HCn.out e ?_⟩
            rcases List.mem_append.1 he with he | he
            · exact List.mem_append_left _ he
            · exact List.mem_append_right _ (List.mem_of_mem_take he)
          generalize hso : st on = so at *
          have HSO := hide hso
          dsimp only at y0 y1
          obtain ⟨W1, hW1⟩ : ∃ W1, W1 = wr.alloc (.cells #[.int .i64 (on : Int), .bool neg] 82) := ⟨_, rfl⟩
          have d6 := cell_alloc d6 (.cells #[.int .i64 (on : Int), .bool neg] 82)
          have z0 := cell_alloc z0 (.cells #[.int .i64 (on : Int), .bool neg] 82)
          have p0 := cell_of_row _ _ 0 _ _ _ (heap_alloc_new wr (.cells #[.int .i64 (on : Int), .bool neg] 82))
          have p1 := cell_of_row _ _ 1 _ _ _ (heap_alloc_new wr (.cells #[.int .i64 (on : Int), .bool neg] 82))
          have HBW : Hid (Below w.heap.size w W1) := by rw [hW1]; exact HK.out.2.trans ((Lx.below_box wr _).mono HK.out.2.size)
          rw [← hW1] at d6 z0 p0 p1
          generalize hB : wr.heap.size = B at p0 p1
          have HW1 := hide hW1
          have HB := hide hB
          clear hmem hon hrc hso hW1 hB d0 x0 c0 c6 hci
          go_upto_region 8 with fail
          rw [← HW1.out, HB.out]
          clear HW1 HB y0 y1
          go_region
          cases neg
          · go_wp2_with fail
            go_roundw
            case rel => 
              have this := HP.out (fun _ => rfl)
              have e : so + ng false = so := by simp [ng]
              rw [e] at this
              exact ⟨k + 1, _, rfl, by go_num, by omega, by omega, by omega, this.1, HBW.out.drew⟩
            case measure => simp [intOf]; omega
          · by_cases hso1 : so = -1
            · subst hso1
              go_wp2_with fail
              refine bodyPost_ret (results_tmp2 rfl _ _ _) rfl ?_
              have hv : ∃ v ∈ C, ∃ a, (a, true) ∈ nd v ∧ st a = -1 := ⟨v, HME.out, on, hL ▸ HM.out, HSO.out⟩
              exact ⟨HBW.out.drew, .inr ⟨rfl, hv⟩⟩
            · go_wp2_with fail
              go_roundw
              case rel => 
                have this := HP.out (fun e => absurd e hso1)
                have e : so + ng true = so + 1 := by simp [ng]
                rw [e] at this
                exact ⟨k + 1, _, rfl, by go_num, by omega, by omega, by omega, this.1, HBW.out.drew⟩
              case measure => simp [intOf]; omega
        · have hktI : ¬ (k : Int) < (L.length : Int) := by omega
          have e : L.take k = L := List.take_of_length_le (by omega)
          go_wp2_with fail
          go_roundw
          case rel => 
            have h1 := HK.out.1
            rw [e, ← HTF.out] at h1
            exact ⟨i + 1, t, rfl, by go_num, by omega, ht0, ht1, h1, HK.out.2⟩
          case measure => simp [intOf]; omega
    · have hltI : ¬ (i : Int) < (C.length : Int) := by omega
      have e : C.take i = C := List.take_of_length_le (by omega)
      rw [e] at HI
      go_wp2_with fail
      refine bodyPost_ret (results_tmp2 rfl _ _ _) rfl ?_
      exact ⟨HI.out.2, .inl ⟨s, rfl, HI.out.1⟩⟩
end Go.Proofs.Ytdmhajeaphnebaa.Gr
namespace Go.Proofs.Ytdmhajeaphnebaa.Gr
open Go.RowKit
open Vl (Fr)
open Tj (ng ng_nn)
variable {w0 w w' : World} {qb : Nat} {nv pv ov mv lv sv : Value} {n cnt : Nat} {path : List (Nat × Nat)} {opn : List Nat} {met low st : Nat → Int} {nd : Nat → List (Nat × Bool)}

theorem Wk.below (h : Wk w0 w qb nv pv ov mv lv sv n cnt path opn met low st nd) (hb : Below w.heap.size w w') : Wk w0 w' qb nv pv ov mv lv sv n cnt path opn met low st nd := by
  have hf : Fr (fun _ => False) w w' := Fr.of_below hb
  have ho : ∀ {e s c : Nat} {x : Value} {xs : List Value}, w.ownsRow 0 e s x c xs → w'.ownsRow 0 e s x c xs := fun {e s c x xs} k => own_of_cell k hf (fun _ hk => hk.elim)
  exact ⟨(hf.block qb (Array.getElem?_eq_some_iff.1 h.b).1 id).trans h.b, ho h.p, ho h.o, ho h.m, ho h.l, ho h.s, h.nd.fr hf (fun _ hk => hk.elim), h.om, h.ol, h.os, h.ml, h.ms, h.ls, h.z.fr hf (fun _ hk => hk.elim)⟩
theorem Wk.cutO {pre C : List Nat} {g c : Nat} (h : Wk w0 w qb nv pv (.slice (some ⟨g, 0, none⟩) (pre ++ C).length c) mv lv sv n cnt path (pre ++ C) met low st nd) : Wk w0 (w.setCell ⟨qb, 2, none⟩ (.slice (some ⟨g, 0, none⟩) pre.length c)) qb nv pv (.slice (some ⟨g, 0, none⟩) pre.length c) mv lv sv n cnt path pre met low st nd := by
  obtain ⟨hr, hn⟩ := h.fr_q 2 (.slice (some ⟨g, 0, none⟩) pre.length c)
  have ho : w.ownsRow 0 3 1 (.slice (some ⟨g, 0, none⟩) pre.length c) pre.length (pre.map num) := own_cut h.o (by simp) (by simp)
  exact ⟨by rw [Vl.heap_set h.b]; rfl, hr h.p (by decide), hr ho (by decide), hr h.m (by decide), hr h.l (by decide), hr h.s (by decide), hn, fun k hk => h.om k hk, fun k hk => h.ol k hk, fun k hk => h.os k hk, h.ml, h.ms, h.ls, h.z.one (.inl rfl) _ _⟩
theorem upd_mem {f : Nat → Int} {C : List Nat} {i : Nat} (hi : i < C.length) (s : Int) : upd (fun v => if v ∈ C.take i then s else f v) C[i] s = fun v => if v ∈ C.take (i + 1) then s else f v := by
  funext v
  rw [List.take_succ_eq_append_getElem hi]
  simp only [upd, List.mem_append, List.mem_singleton]
  by_cases h1 : v = C[i]
  · rw [if_pos h1, if_pos (.inr h1)]
  · rw [if_neg h1]
    by_cases h2 : v ∈ C.take i
    · rw [if_pos h2, if_pos (.inl h2)]
    · rw [if_neg h2, if_neg (fun h => h.elim h2 h1)]

set_option maxHeartbeats 4000000 in
theorem settle_any {pre post : List Nat} {id : Nat} (h : Wk w0 w qb nv pv ov mv lv sv n cnt path (pre ++ id :: post) met low st nd) (hpost : id ∉ post) (hCn : ∀ v ∈ id :: post, v < n) (hCl : (pre ++ id :: post).length ≤ 1000) (hn : n ≤ 1000)
    (hnd : ∀ v, v < n → (nd v).length ≤ 1000000 ∧ ∀ e ∈ nd v, e.1 < n) (hst : ∀ v, v < n → -1 ≤ st v ∧ st v ≤ 1000) :
    Calls Try.prog 49 #[.pointer (some ⟨qb, 0, none⟩), .int .i64 (id : Int)] w fun e w' => (e = .returned (.bool true) ∧ ∃ s, Ls st ((id :: post).flatMap nd) s ∧ ∃ ov', Wk w0 w' qb nv pv ov' mv lv sv n cnt path pre met low (fun v => if v ∈ id :: post then s else st v) nd) ∨ (e = .returned (.bool false) ∧ Below w0.heap.size w0 w' ∧ ∃ v ∈ id :: post, ∃ a, (a, true) ∈ nd v ∧ st a = -1) := by
  obtain ⟨C, hC⟩ : ∃ C, C = id :: post := ⟨_, rfl⟩
  obtain ⟨X, hX⟩ : ∃ X : Nat → Nat, ∀ b (hb : b < (pre ++ C).length), X b = (pre ++ C)[b] := ⟨fun b => (pre ++ C).getD b 0, fun b hb => by simp [List.getD, List.getElem?_eq_getElem hb]⟩
  have HA : Hid (∀ b, b < (pre ++ C).length → pre.length ≤ b → X b = id → b = pre.length) := by
    intro b hb hp he
    rw [hX b hb] at he
    subst hC
    rw [List.getElem_append_right hp] at he
    by_cases h0 : b - pre.length = 0
    · omega
    · obtain ⟨m, hm⟩ : ∃ m, b - pre.length = m + 1 := ⟨b - pre.length - 1, by omega⟩
      simp only [hm, List.getElem_cons_succ] at he
      exact absurd (he ▸ List.getElem_mem _) hpost
  have HB : Hid (X pre.length = id) := by
    show _ = _
    rw [hX pre.length (by rw [hC]; simp)]
    subst hC
    simp
  have hlen : 0 < C.length := by rw [hC]; simp
  rw [← hC] at h hCn hCl ⊢
  clear hC hpost
  obtain ⟨go, co, rfl, hco, hcm, hoc, hof⟩ := own_open h.o (by simp; omega)
  obtain ⟨_, _, c2, _, _, _, c6⟩ := h.c
  have f2 := h.fz 2
  have HOC : Hid (∀ b, b < (pre ++ C).length → w.cell? ⟨go, b, none⟩ = some (num (X b))) := fun b hb => (hoc b (by omega)).trans (by rw [List.getElem?_map, List.getElem?_eq_getElem hb, hX b hb]; rfl)
  have HCC : Hid (∀ i (hi : i < C.length), w.cell? ⟨go, pre.length + i, none⟩ = some (num C[i])) := fun i hi => (hoc (pre.length + i) (by simp; omega)).trans (by rw [List.getElem?_map, List.getElem?_append_right (by omega)]; simp [hi])
  clear hX
  have hL : Hid ((pre ++ C).length = pre.length + C.length) := List.length_append
  have H0 := hide h
  have HN := hide hCn
  have HD := hide hnd
  have HT := hide hst
  have H1 := hide h.cutO
  clear h hoc
  generalize hP : (pre ++ C).length = P at *
  have hP1 : P ≤ pre.length + C.length := Nat.le_of_eq hL.out
  have hP2 : pre.length + C.length ≤ P := Nat.le_of_eq hL.out.symm
  have HP := hide hP
  clear hof hCn hnd hst
  clear hP
  go_enter Try.func49, Try.ntmps49
  go_wp2_with fail
  go_loopw [5] (fun iv wr => ∃ b : Nat, iv = .int .i64 (b : Int) ∧ pre.length ≤ b ∧ b < P ∧ wr = w) (fun iv _ => (intOf iv).toNat)
  case atStart => exact ⟨P - 1, by go_num, by omega, by omega, rfl⟩
  case round =>
    obtain ⟨b, rfl, hb1, hb2, rfl⟩ := hrel
    have hx := HOC.out b hb2
    unfold num at hx
    have HA1 := hide (HA.out b hb2 hb1)
    have HB1 : Hid (b = pre.length → X b = id) := fun e => by subst e; exact HB.out
    generalize X b = x at *
    have hbI : (b : Int) < (P : Int) := by omega
    by_cases hxi : x = id
    · subst hxi
      have hb := HA1.out rfl
      subst hb
      go_upto_region 6 with fail
      rw [show P - pre.length = C.length by omega]
      have HC1 : Hid (∀ i (hi : i < C.length), (wr.setCell ⟨qb, 2, none⟩ (.slice (some ⟨go, 0, none⟩) pre.length co)).cell? ⟨go, pre.length + i, none⟩ = some (num C[i])) := fun i hi => (World.cell?_setCell_other _ _ _ _ (fun e => by
        have e1 : go = qb := (congrArg Addr.block e).symm
        have h1 := H0.out.b
        obtain ⟨cur, h2⟩ := own_blk H0.out.o (k := go) rfl
        rw [e1, h1] at h2
        simp at h2)).trans (HCC.out i hi)
      have hgq : Hid (go ≠ qb) := fun e1 => by
        have h1 := H0.out.b
        obtain ⟨cur, h2⟩ := own_blk H0.out.o (k := go) rfl
        rw [e1, h1] at h2
        simp at h2
      generalize wr.setCell ⟨qb, 2, none⟩ (.slice (some ⟨go, 0, none⟩) pre.length co) = w1 at H1 HC1 ⊢
      have HLS := hide (least_any (cap := co - pre.length) H1.out HC1.out HN.out (by omega) hn HD.out HT.out)
      clear c2 c6 f2 hx HOC HCC HA HB HA1 HB1 H0
      go_wp2_with fail
      refine HLS.out.mono ?_
      rintro e w2 ⟨hb2, ⟨s, rfl, hs⟩ | ⟨rfl, hbad⟩⟩
      · have HB2 := hide hb2
        have HS := hide hs
        have HW2 := hide (H1.out.below hb2)
        have HC2 : Hid (∀ i (hi : i < C.length), w2.cell? ⟨go, pre.length + i, none⟩ = some (num C[i])) := fun i hi => cell_bel (HC1.out i hi) hb2
        clear hb2 hs HLS H1 HC1 HB2
        have hgs : Hid (∀ g' c', sv = .slice (some ⟨g', 0, none⟩) n c' → g' ≠ go) := fun g' c' e1 e2 => by
          subst e1 e2
          exact HW2.out.os g' rfl rfl
        go_wp2_with fail
        go_loopw [53] (fun iv wq => ∃ i : Nat, iv = .int .i64 (i : Int) ∧ i ≤ C.length ∧ Hid (Wk w0 wq qb nv pv (.slice (some ⟨go, 0, none⟩) pre.length co) mv lv sv n cnt path pre met low (fun v => if v ∈ C.take i then s else st v) nd ∧ ∀ i (hi : i < C.length), wq.cell? ⟨go, pre.length + i, none⟩ = some (num C[i]))) (fun iv _ => C.length - (intOf iv).toNat)
        case atStart => exact ⟨0, rfl, Nat.zero_le _, by simpa using HW2.out, HC2.out⟩
        case round =>
          obtain ⟨i, rfl, hi, HI⟩ := hrel
          by_cases hlt : i < C.length
          · have hltI : (i : Int) < (C.length : Int) := by omega
            have hci := HI.out.2 i hlt
            unfold num at hci
            have hvn := HN.out _ (List.getElem_mem hlt)
            obtain ⟨_, _, _, _, _, _, c6⟩ := HI.out.1.c
            obtain ⟨gs, cs, rfl, _, _, hsc, hsf⟩ := own_open HI.out.1.s (by omega)
            have x6 := (hsc _ (by omega)).trans (rowI_get _ hvn)
            have f6 := hsf C[i]
            have H2 := hide (HI.out.1.setS C[i] s)
            rw [upd_mem hlt s] at H2
            have HC3 : Hid (∀ j (hj : j < C.length), (wr.setCell ⟨gs, C[i], none⟩ (.int .i64 s)).cell? ⟨go, pre.length + j, none⟩ = some (num C[j])) := fun j hj => (World.cell?_setCell_other _ _ _ _ (fun e => hgs.out gs cs rfl (congrArg Addr.block e))).trans (HI.out.2 j hj)
            generalize C[i] = v at *
            generalize (if v ∈ C.take i then s else st v) = z at x6
            have hvI : (v : Int) < (n : Int) := by omega
            have hnI : (n : Int) ≤ 1000 := by omega
            clear hsc hsf
            go_wp2_with fail
            go_roundw
            case rel => exact ⟨i + 1, by go_num, by omega, H2.out, HC3.out⟩
            case measure => simp [intOf]; omega
          · have hltI : ¬ (i : Int) < (C.length : Int) := by omega
            have e : C.take i = C := List.take_of_length_le (by omega)
            rw [e] at HI
            go_wp2_with fail
            go_ret
            exact .inl ⟨rfl, s, HS.out, _, HI.out.1⟩
      · have HBd := hide hbad
        have HB3 := hide (H1.out.z.1.trans (hb2.mono H1.out.z.1.size))
        go_wp2_with fail
        go_ret
        exact .inr ⟨rfl, HB3.out, HBd.out⟩
    · have hxI : ¬ (x : Int) = (id : Int) := by omega
      have hb3 : pre.length < b := by
        rcases Nat.lt_or_ge pre.length b with h1 | h1
        · exact h1
        · exact absurd (HB1.out (by omega)) hxi
      go_wp2_with fail
      go_roundw
      case rel => exact ⟨b - 1, by go_num, by omega, by omega, by trivial⟩
      case measure => simp [intOf]; omega
end Go.Proofs.Ytdmhajeaphnebaa.Gr
namespace Go.Proofs.Ytdmhajeaphnebaa.Gr
open Go.RowKit
open Vl (Fr)
open Tj (ng ng_nn)
variable {w0 w w' : World} {qb : Nat} {nv pv ov mv lv sv : Value} {n cnt : Nat} {path : List (Nat × Nat)} {opn : List Nat} {met low st : Nat → Int} {nd : Nat → List (Nat × Bool)}

theorem cellsP_len (l : List (Nat × Nat)) : (cellsP l).length = l.length * 2 := by
  induction l with
  | nil => rfl
  | cons a l ih => simp only [cellsP, List.flatMap_cons, List.length_append, List.length_cons, List.length_nil] at ih ⊢; omega
theorem cellsP_app (l r : List (Nat × Nat)) : cellsP (l ++ r) = cellsP l ++ cellsP r := by simp [cellsP]
theorem cellsP_last (l : List (Nat × Nat)) (a k : Nat) : (cellsP (l ++ [(a, k)]))[l.length * 2]? = some (num a) := by
  rw [cellsP_app, List.getElem?_append_right (by rw [cellsP_len]; omega), cellsP_len]
  simp [cellsP, num]
theorem Wk.cutP {q r : List (Nat × Nat)} {g c : Nat} (h : Wk w0 w qb nv (.slice (some ⟨g, 0, none⟩) (q ++ r).length c) ov mv lv sv n cnt (q ++ r) opn met low st nd) : Wk w0 (w.setCell ⟨qb, 1, none⟩ (.slice (some ⟨g, 0, none⟩) q.length c)) qb nv (.slice (some ⟨g, 0, none⟩) q.length c) ov mv lv sv n cnt q opn met low st nd := by
  obtain ⟨hr, hn⟩ := h.fr_q 1 (.slice (some ⟨g, 0, none⟩) q.length c)
  have ho : w.ownsRow 0 95 2 (.slice (some ⟨g, 0, none⟩) q.length c) q.length (cellsP q) := own_cut h.p (by simp) (by rw [cellsP_app, List.take_left' (cellsP_len q)])
  exact ⟨by rw [Vl.heap_set h.b]; rfl, hr ho (by decide), hr h.o (by decide), hr h.m (by decide), hr h.l (by decide), hr h.s (by decide), hn, h.om, h.ol, h.os, h.ml, h.ms, h.ls, h.z.one (.inl rfl) _ _⟩

/-- What leave, or settle, has done. -/
def LvR (w0 w' : World) (qb : Nat) (nv mv lv sv : Value) (n cnt : Nat) (path : List (Nat × Nat)) (pre C : List Nat) (met low st : Nat → Int) (nd : Nat → List (Nat × Bool)) (b : Bool) : Prop :=
  (b = true ∧ ∃ s, Ls st (C.flatMap nd) s ∧ ∃ pv ov, Wk w0 w' qb nv pv ov mv lv sv n cnt path pre met low (fun v => if v ∈ C then s else st v) nd) ∨ (b = false ∧ Below w0.heap.size w0 w' ∧ ∃ v ∈ C, ∃ a, (a, true) ∈ nd v ∧ st a = -1)
set_option maxHeartbeats 4000000 in
theorem leave_root {pre post : List Nat} {id k : Nat} (h : Wk w0 w qb nv pv ov mv lv sv n cnt [(id, k)] (pre ++ id :: post) met low st nd) (hroot : low id = met id) (hpost : id ∉ post) (hCn : ∀ v ∈ id :: post, v < n) (hCl : (pre ++ id :: post).length ≤ 1000) (hn : n ≤ 1000)
    (hnd : ∀ v, v < n → (nd v).length ≤ 1000000 ∧ ∀ e ∈ nd v, e.1 < n) (hst : ∀ v, v < n → -1 ≤ st v ∧ st v ≤ 1000) :
    Calls Try.prog 42 #[.pointer (some ⟨qb, 0, none⟩)] w fun e w' => ∃ b, e = .returned (.bool b) ∧ LvR w0 w' qb nv mv lv sv n cnt [] pre (id :: post) met low st nd b := by
  obtain ⟨gp, cp, rfl, hcp, hcm, hpc, _⟩ := own_open h.p (by simp)
  have hid := hCn id (by simp)
  obtain ⟨gm, cm, rfl, _, _, hmc, _⟩ := own_open h.m (by omega)
  obtain ⟨gl, cl, rfl, _, _, hlc, _⟩ := own_open h.l (by omega)
  obtain ⟨_, c1, _, _, c4, c5, _⟩ := h.c
  have f1 := h.fz 1
  have x0 : w.cell? ⟨gp, 0, none⟩ = some (.int .i64 (id : Int)) := (hpc 0 (by simp)).trans rfl
  have H1 := hide (h.cutP (q := []) (r := [(id, k)])).drew.drew
  simp only [List.length_nil, List.length_singleton] at H1 c1 hcp
  have e1 := H1.out.c.2.1
  have e4 := H1.out.c.2.2.2.2.1
  have e5 := H1.out.c.2.2.2.2.2.1
  obtain ⟨_, _, ee, _, _, hmc, _⟩ := own_open H1.out.m (by omega)
  simp only [Value.slice.injEq, Option.some.injEq, Addr.mk.injEq, and_true, true_and] at ee
  obtain ⟨rfl, rfl⟩ := ee
  obtain ⟨_, _, ee, _, _, hlc, _⟩ := own_open H1.out.l (by omega)
  simp only [Value.slice.injEq, Option.some.injEq, Addr.mk.injEq, and_true, true_and] at ee
  obtain ⟨rfl, rfl⟩ := ee
  have xm := (hmc id (by omega)).trans (rowI_get met hid)
  have xl := (hlc id (by omega)).trans (rowI_get low hid)
  rw [hroot] at xl
  have HSE : Hid (Calls Try.prog 49 #[.pointer (some ⟨qb, 0, none⟩), .int .i64 (id : Int)] _ fun e w' => ∃ b, e = .returned (.bool b) ∧ Hid (LvR w0 w' qb nv (.slice (some ⟨gm, 0, none⟩) n cm) (.slice (some ⟨gl, 0, none⟩) n cl) sv n cnt [] pre (id :: post) met low st nd b)) := (settle_any H1.out.drew hpost hCn hCl hn hnd hst).mono (fun e w' he => by
    rcases he with ⟨rfl, s, hs, ov', hw⟩ | ⟨rfl, hb, hbad⟩
    · exact ⟨true, rfl, .inl ⟨rfl, s, hs, _, _, hw⟩⟩
    · exact ⟨false, rfl, .inr ⟨rfl, hb, hbad⟩⟩)
  have hidI : (id : Int) < (n : Int) := by omega
  have hnI : (n : Int) ≤ 1000 := by omega
  generalize met id = mi at xm xl
  clear hpc hmc hlc hnd hst hCn h hroot
  obtain ⟨w1, hw1⟩ : ∃ w1, w1 = (w.setCell ⟨qb, 1, none⟩ (.slice (some ⟨gp, 0, none⟩) 0 cp)).drew.drew := ⟨_, rfl⟩
  rw [← hw1] at e1 e4 e5 xm xl HSE H1
  have HW1 := hide hw1
  clear hw1
  go_enter Try.func42, Try.ntmps42
  go_upto_region 1 with fail
  go_region
  go_upto_region 2 with fail
  refine wp_region_noPanic ?_
  go_region
  refine NoPanic.normal ?_
  rw [← HW1.out]
  clear HW1 c1 c4 c5 f1 x0
  have hmm : decide (mi < mi) = false := by simp
  go_upto_region 6 with fail
  go_region_with (go_at_call 49; refine Calls.mono HSE.out ?_; rintro e w5 ⟨b, rfl, HX⟩)
  all_goals go_wp2
  all_goals go_ret
  all_goals exact ⟨b, rfl, HX.out⟩
end Go.Proofs.Ytdmhajeaphnebaa.Gr

/- from. What predicates need, in memory, while it is read out of bodies. No walk. graphOf. read. graphOf's walk. -/
import Derived.Test.YtdmhajeaphnebaaPart14
import Derived.Deep.LoopGhost
import Derived.StillTailTactics
import Derived.Test.YtdmhajeaphnebaaPart10
import Derived.Deep.RegionLaw
import Derived.Deep.CutRange
namespace Go.Proofs.Ytdmhajeaphnebaa.Gr
open Go.RowKit
open Vl (Fr)
open Tj (ng ng_nn Inv Rch Sol up up_s up_o count_lt)
variable {w0 w w' : World} {qb : Nat} {nv pv ov mv lv sv : Value} {n cnt : Nat} {path : List (Nat × Nat)} {opn : List Nat} {met low nxt : Nat → Nat} {st : Nat → Int} {nd : Nat → List (Nat × Bool)}

theorem own_sl {w : World} {b e s n : Nat} {v : Value} {xs : List Value} (h : w.ownsRow b e s v n xs) : ∃ ao cap, v = .slice ao n cap := by
  rcases h.2 with ⟨rfl, rfl⟩ | ⟨g, cap, cur, rfl, _⟩
  · exact ⟨_, _, rfl⟩
  · exact ⟨_, _, rfl⟩
theorem cellsN_len (l : List (Nat × Bool)) : (cellsN l).length = l.length * 2 := by
  induction l with
  | nil => rfl
  | cons a l ih => simp only [cellsN, List.flatMap_cons, List.length_append, List.length_cons, List.length_nil] at ih ⊢; omega
theorem cellsN_at {l : List (Nat × Bool)} {j : Nat} {e : Nat × Bool} (h : l[j]? = some e) : (cellsN l)[j * 2]? = some (num e.1) ∧ (cellsN l)[j * 2 + 1]? = some (.bool e.2) := by
  obtain ⟨h1, h2⟩ := List.getElem?_eq_some_iff.1 h
  have e1 : l = l.take j ++ e :: l.drop (j + 1) := by rw [← h2, List.getElem_cons_drop, List.take_append_drop]
  have e2 : cellsN l = cellsN (l.take j) ++ (num e.1 :: .bool e.2 :: cellsN (l.drop (j + 1))) := by
    conv => lhs; rw [e1]
    simp [cellsN, num]
  have e3 : (cellsN (l.take j)).length = j * 2 := by rw [cellsN_len, List.length_take]; congr 1; omega
  rw [e2]
  constructor
  · rw [List.getElem?_append_right (by omega), e3]; simp
  · rw [List.getElem?_append_right (by omega), e3]
    have : j * 2 + 1 - j * 2 = 1 := by omega
    rw [this]; rfl
theorem cellsP_next (l : List (Nat × Nat)) (a k : Nat) : (cellsP (l ++ [(a, k)]))[l.length * 2 + 1]? = some (num k) := by
  rw [cellsP_app, List.getElem?_append_right (by rw [cellsP_len]; omega), cellsP_len]
  have : l.length * 2 + 1 - l.length * 2 = 1 := by omega
  rw [this]; rfl
theorem Wv.root {k id : Nat} (h : Wv w0 w qb nv mv lv sv n nd [] [] met low nxt cnt st k) (hid : id < n) (hm : met id = 0) {pv ov : Value} (hw : Wk w0 w' qb nv pv ov mv lv sv n (cnt + 1) [(id, 0)] [id] (upd (zf met) id ((cnt + 1 : Nat) : Int)) (upd (zf low) id ((cnt + 1 : Nat) : Int)) st nd) :
    Wv w0 w' qb nv mv lv sv n nd [(id, 0)] [id] (up met id (cnt + 1)) (up low id (cnt + 1)) (up nxt id 0) (cnt + 1) st k := by
  have h1 := h.inv.enter (on := id) hid hm (fun p hp => by simp at hp)
  rw [zf_up, zf_up] at hw
  obtain ⟨K, k1, k2⟩ := h.kk
  refine ⟨⟨pv, ov, hw⟩, h1, fun p hp => ?_, count_enter hid hm h.cn, ⟨K, by simp at k1 ⊢; omega, k2⟩, by simp, fun p hp => ?_, ?_⟩
  · have : p = (id, 0) := by simpa using hp
    subst this
    exact up_s _ _ _
  · have : p = (id, 0) := by simpa using hp
    subst this
    exact Nat.zero_le _
  · have := sumN_lt (n := n) (f := cost nd [] met nxt) (g := cost nd [(id, 0)] (up met id (cnt + 1)) (up nxt id 0)) (fun v hv => ?_) (a := id) hid ?_
    · have := h.ms; omega
    · unfold cost
      by_cases e : v = id
      · subst e
        rw [up_s, up_s, if_neg (by omega), if_pos (by simp), if_pos hm]
        omega
      · rw [up_o _ _ e, up_o _ _ e]
        by_cases e0 : met v = 0
        · rw [if_pos e0, if_pos e0]; exact Nat.le_refl _
        · rw [if_neg e0, if_neg e0, if_neg (by simpa using e)]; exact Nat.zero_le _
    · unfold cost
      rw [up_s, up_s, if_neg (by omega), if_pos (by simp), if_pos hm]
      omega

set_option maxHeartbeats 4000000 in
set_option maxRecDepth 4000 in
theorem from_any {k id : Nat} (h : Wv w0 w qb nv mv lv sv n nd [] [] met low nxt cnt st k) (hid : id < n) (hm : met id = 0) (hn : n ≤ 999) (hnl : ∀ v, v < n → (nd v).length ≤ 1000000) :
    Calls Try.prog 32 #[.pointer (some ⟨qb, 0, none⟩), .int .i64 (id : Int)] w fun x w2 => (x = .returned (.bool true) ∧ ∃ met' low' nxt' cnt' st' k', Wv w0 w2 qb nv mv lv sv n nd [] [] met' low' nxt' cnt' st' k' ∧ met' id ≠ 0 ∧ ∀ v, met v ≠ 0 → met' v ≠ 0) ∨ (x = .returned (.bool false) ∧ Below w0.heap.size w0 w2 ∧ ∀ t, ¬ Sol nd n t) := by
  have hc := h.cnt_le
  obtain ⟨pv, ov, hk⟩ := h.wk
  have HE := hide (enter_any hk hid (by omega) (by omega) (by simp) (by simp))
  have H0 := hide h
  have HN := hide hnl
  clear hnl hk h
  go_enter Try.func32, Try.ntmps32
  go_wp2_with fail
  refine HE.out.mono ?_
  rintro _ w1 ⟨rfl, pv1, ov1, hw1⟩
  have H1 := hide (H0.out.root hid hm hw1)
  clear HE hw1
  have HM : Hid (up met id (cnt + 1) id ≠ 0 ∧ ∀ v, met v ≠ 0 → up met id (cnt + 1) v ≠ 0) := ⟨by rw [up_s]; omega, fun v hv => by
    by_cases e : v = id
    · subst e; rw [up_s]; omega
    · rw [up_o _ _ e]; exact hv⟩
  go_wp2_with fail
  go_loopg [] k (fun k' wr => ∃ path opn met' low' nxt' cnt' st', Hid (Wv w0 wr qb nv mv lv sv n nd path opn met' low' nxt' cnt' st' k' ∧ met' id ≠ 0 ∧ ∀ v, met v ≠ 0 → met' v ≠ 0))
  case atStart => exact ⟨_, _, _, _, _, _, _, H1.out, HM.out⟩
  case round =>
    obtain ⟨path, opn, met', low', nxt', cnt', st', HV⟩ := hrel
    have hcn := HV.out.1.cnt_le
    have hpl := HV.out.1.pl
    obtain ⟨pv, ov, hk⟩ := HV.out.1.wk
    clear H0 H1 HM
    rcases nil_or_snoc path with rfl | ⟨q, ⟨a, j⟩, rfl⟩
    · obtain ⟨ao, cap, rfl⟩ := own_sl hk.p
      have c1 := hk.c.2.1
      have HO : Hid (opn = []) := HV.out.1.inv.none
      clear hk
      go_wp2_with fail
      go_ret
      refine .inl ⟨rfl, met', low', nxt', cnt', st', gk, ?_⟩
      have h1 := HV.out
      rw [HO.out] at h1
      exact h1
    · have hin := HV.out.1.inv.on a (HV.out.1.inv.pin a last_mem)
      have han : a < n := hin.1
      have hjl := HV.out.1.jl (a, j) (by simp)
      have hna := HN.out a han
      have e1 : (q ++ [(a, j)]).length = q.length + 1 := by simp
      have hql : q.length + 1 ≤ 1000 := by rw [e1] at hpl; omega
      obtain ⟨gp, cp, rfl, hcp, hcm, hpc, hpf⟩ := own_open hk.p (by simp)
      obtain ⟨V, hV1, hV2⟩ := hk.nd
      obtain ⟨gn, cn, rfl, _, _, hnc, _⟩ := own_open hV1 (by omega)
      obtain ⟨c0, c1, _, _, _, _, _⟩ := hk.c
      have x0 := (hpc (q.length * 2) (by simp)).trans (cellsP_last q a j)
      have x1 := (hpc (q.length * 2 + 1) (by rw [e1]; omega)).trans (cellsP_next q a j)
      have f1 := hpf (q.length * 2 + 1)
      have y0 : wr.cell? ⟨gn, a, none⟩ = some (V a) := (hnc a (by omega)).trans (by simp [han])
      unfold num at x0 x1
      have hva := hV2 a han
      obtain ⟨L, HL⟩ : ∃ L, Hid (L = (nd a).length) := ⟨_, rfl⟩
      rw [← HL.out] at hva hjl hna
      have hjL : j ≤ L := hjl
      have haI : (a : Int) < (n : Int) := by omega
      have hnI : (n : Int) ≤ 1000 := by omega
      have hjI : (j : Int) ≤ 1000000 := by omega
      obtain ⟨ao, cv, hVa⟩ := own_sl hva
      rw [hVa] at y0 hva
      obtain ⟨m, hm'⟩ : ∃ m, m = q.length := ⟨_, rfl⟩
      rw [e1] at c1 hcp
      rw [← hm'] at x0 x1 f1 c1 hcp hql
      by_cases hlt : j < L
      · have hltI : (j : Int) < (L : Int) := by omega
        obtain ⟨e, he⟩ : ∃ e, (nd a)[j]? = some e := ⟨_, List.getElem?_eq_getElem (by rw [← HL.out]; exact hlt)⟩
        obtain ⟨gv, cv', ev, _, _, hvc, _⟩ := own_open hva (by omega)
        simp only [Value.slice.injEq, true_and] at ev
        obtain ⟨rfl, rfl⟩ := ev
        have z0 := (hvc (j * 2) (by omega)).trans (cellsN_at he).1
        clear hvc hnc hpc hpf hV1 hV2 hva
        have hk1 := hk.setN (j + 1)
        rw [e1, ← hm'] at hk1
        have H2 := hide hk1.drew.drew
        obtain ⟨w2, hw2⟩ : ∃ w2, w2 = (wr.setCell ⟨gp, m * 2 + 1, none⟩ (.int .i64 ((j + 1 : Nat) : Int))).drew.drew := ⟨_, rfl⟩
        rw [← hw2] at H2
        have HW2 := hide hw2
        have eJ : ((j + 1 : Nat) : Int) = (j : Int) + 1 := by omega
        obtain ⟨k', rfl⟩ := HV.out.1.pos
        have HC : Hid (Calls Try.prog 41 #[.pointer (some ⟨qb, 0, none⟩), .int .i64 (a : Int), .int .i64 (e.1 : Int)] w2.drew fun x w3 => x = .returned (.tuple #[]) ∧ ∃ path' opn' met2 low2 nxt2 cnt2, Hid (Wv w0 w3 qb (.slice (some ⟨gn, 0, none⟩) n cn) mv lv sv n nd path' opn' met2 low2 nxt2 cnt2 st' k' ∧ met2 id ≠ 0 ∧ ∀ v, met v ≠ 0 → met2 v ≠ 0)) := (look_wv HV.out.1 he H2.out.drew hn).mono (fun x w3 hx => by
          obtain ⟨hx, p1, p2, p3, p4, p5, p6, p7, p8⟩ := hx
          exact ⟨hx, p1, p2, p3, p4, p5, p6, p7, p8 id HV.out.2.1, fun v hv => p8 v (HV.out.2.2 v hv)⟩)
        obtain ⟨d0, d1, _, _, _, _, _⟩ := H2.out.c
        obtain ⟨_, _, ee, _, _, hpc, _⟩ := own_open H2.out.p (by simp)
        simp only [List.length_append, List.length_singleton, ← hm', Value.slice.injEq, Option.some.injEq, Addr.mk.injEq, and_true, true_and] at ee
        obtain ⟨rfl, rfl⟩ := ee
        obtain ⟨V2, hV1, hV2⟩ := H2.out.nd
        obtain ⟨_, _, ee, _, _, hnc, _⟩ := own_open hV1 (by omega)
        simp only [Value.slice.injEq, Option.some.injEq, Addr.mk.injEq, and_true, true_and] at ee
        obtain ⟨rfl, rfl⟩ := ee
        have u0 := (hpc (q.length * 2) (by simp)).trans (cellsP_last q a (j + 1))
        have u1 := (hpc (q.length * 2 + 1) (by simp; omega)).trans (cellsP_next q a (j + 1))
        have v0 : w2.cell? ⟨gn, a, none⟩ = some (V2 a) := (hnc a (by omega)).trans (by simp [han])
        have hva := hV2 a han
        obtain ⟨g2, cv2, ev2, _, _, hvc, _⟩ := own_open hva (by rw [← HL.out]; omega)
        have t0 := (hvc (j * 2) (by rw [← HL.out]; omega)).trans (cellsN_at he).1
        rw [ev2, ← HL.out] at v0
        unfold num at u0 u1 t0
        rw [← hm'] at u0 u1
        rw [eJ] at u1 HW2
        clear eJ
        have h2 : (2 : Int) ≤ 1000 := by omega
        clear hvc hnc hpc hV1 hV2 hva ev2 hk1 hm' hw2 H2 hVa hk hin e1 hjl HL
        go_upto_region 3 with fail
        go_region
        go_upto_region 4 with fail
        go_region
        go_upto_region 6 with fail
        rw [← HW2.out]
        clear HW2 c0 c1 x0 x1 y0 f1 z0 HV hcn hpl hcp hcm
        have hwj : IntKind.i64.wrap (j : Int) = (j : Int) := by rw [IntKind.wrap_i64]; omega
        refine wp_region_still_tail 23 (by kernel_rfl) (by kernel_rfl) ?_
        change wpStill Try.prog _ (World.drew w2) (fun a' => wpList Try.prog _ _ _ a' (World.drew w2)) _ _
        simp only [List.take_succ_cons, List.take_zero, List.drop_succ_cons, List.drop_zero]
        repeat still_step
        refine wpStill_nil ?_
        go_wp2_with (go_at_call 41; (with_reducible refine Calls.mono HC.out ?_); rintro x w5 ⟨rfl, path', opn', met2, low2, nxt2, cnt2, HX⟩; clear d0 d1 u0 u1 v0 t0 HC)
        go_roundg k'
        case measure => omega
        case rel => exact ⟨path', opn', met2, low2, nxt2, cnt2, st', HX⟩
      · have hLj : (nd a).length ≤ j := by rw [← HL.out]; omega
        have hltI : decide ((j : Int) < (L : Int)) = false := by simp; omega
        obtain ⟨k', rfl⟩ := HV.out.1.pos
        have HC : Hid (∀ W, Below wr.heap.size wr W → Calls Try.prog 42 #[.pointer (some ⟨qb, 0, none⟩)] W fun x w3 => (x = .returned (.bool true) ∧ ∃ opn' low2 st2, Hid (Wv w0 w3 qb (.slice (some ⟨gn, 0, none⟩) n cn) mv lv sv n nd q opn' met' low2 nxt' cnt' st2 k')) ∨ (x = .returned (.bool false) ∧ Hid (Below w0.heap.size w0 w3 ∧ ∀ t, ¬ Sol nd n t))) := fun W hb => (leave_wv (HV.out.1.below hb) hLj hn HN.out).mono (fun x w3 hx => hx)
        have HM : Hid (met' id ≠ 0 ∧ ∀ v, met v ≠ 0 → met' v ≠ 0) := HV.out.2
        clear hnc hpc hpf hV1 hV2 hva hVa hk hin e1 hjl HV hm'
        have hjL : ¬ ((j : Int) < (L : Int)) := by omega
        go_upto_region 3 with fail
        go_region
        go_upto_region 4 with fail
        go_region
        clear c0 c1 x0 x1 y0 f1
        go_wp2_with fail
        refine Calls.mono (HC.out _ (by repeat (first | exact Below.refl _ _ | refine Below.drew ?_))) ?_
        rintro x w3 (⟨rfl, opn', low2, st2, HX⟩ | ⟨rfl, HX⟩)
        · go_wp2_with fail
          go_roundg k'
          case measure => omega
          case rel => exact ⟨q, opn', met', low2, nxt', cnt', st2, HX.out, HM.out⟩
        · go_wp2_with fail
          go_ret
          exact .inr ⟨rfl, HX.out⟩
end Go.Proofs.Ytdmhajeaphnebaa.Gr
namespace Go.Proofs.Ytdmhajeaphnebaa.Gr
open Go.RowKit
open Vl (Fr)
open Tj (memB memB_iff ixN nd1 ndB)
variable {w0 w w' : World} {nv : Value} {n : Nat} {V : Nat → Value} {nd : Nat → List (Nat × Bool)}

/-- Blocks of needs. -/
def TF (w : World) : Nat → Prop := fun k => ∃ cs fr T, w.heap[k]? = some (.cells cs T fr) ∧ (T = 80 ∨ T = 82)
theorem TF.trans {w1 w2 : World} (h : Fr (TF w) w w1) (k : Fr (TF w1) w1 w2) : Fr (TF w) w w2 := h.trans k (fun i hi ht => by
  apply Classical.byContradiction
  intro hn
  obtain ⟨cs, fr, T, h1, h2⟩ := ht
  rw [h.block i hi hn] at h1
  exact hn ⟨cs, fr, T, h1, h2⟩)
theorem TF.refl (w : World) : Fr (TF w) w w := Fr.refl _ w
theorem TF.cell {p : Addr} {x : Value} (h : Fr (TF w) w w') (hc : w.cell? p = some x) (hn : ¬ TF w p.block) : w'.cell? p = some x := h.cell hc hn
theorem TF.of_cells {k T : Nat} {cs : Array Value} {fr : Nat × Nat} (h : w.heap[k]? = some (.cells cs T fr)) (hT : T ≠ 80 ∧ T ≠ 82) : ¬ TF w k := by
  rintro ⟨cs', fr', T', h1, h2⟩
  rw [h] at h1
  simp at h1
  obtain ⟨_, rfl, _⟩ := h1
  exact h2.elim hT.1 hT.2
theorem TF.of_map {k c : Nat} {es : Array MapEntry} (h : w.heap[k]? = some (.map es c)) : ¬ TF w k := by
  rintro ⟨cs', fr', T', h1, h2⟩
  rw [h] at h1
  simp at h1
theorem TF.own {e s c : Nat} {v : Value} {xs : List Value} (ho : w.ownsRow 0 e s v c xs) (he : e = 80 ∨ e = 82) {k : Nat} (hk : v.ownBlock = some k) : TF w k := by
  obtain ⟨cur, hc⟩ := own_blk ho hk
  exact ⟨cur, _, e, hc, he⟩
/-- The needs in memory, rows apart, all new since w0. -/
structure NdS (w0 w : World) (nv : Value) (n : Nat) (V : Nat → Value) (nd : Nat → List (Nat × Bool)) : Prop where
  o : w.ownsRow 0 80 1 nv n ((List.range n).map V)
  r : ∀ v, v < n → w.ownsRow 0 82 2 (V v) (nd v).length (cellsN (nd v))
  ap : ∀ v u, v < n → u < n → v ≠ u → apart (V v) (V u)
  z : Below w0.heap.size w0 w
  zo : ∀ k, nv.ownBlock = some k → w0.heap.size ≤ k
  zr : ∀ v, v < n → ∀ k, (V v).ownBlock = some k → w0.heap.size ≤ k
theorem NdS.ndIn (h : NdS w0 w nv n V nd) : NdIn w nv n nd := ⟨V, h.o, h.r⟩
theorem NdS.below (h : NdS w0 w nv n V nd) (hb : Below w.heap.size w w') : NdS w0 w' nv n V nd := by
  have hf : Fr (fun _ => False) w w' := Fr.of_below hb
  have ho : ∀ {e s c : Nat} {x : Value} {xs : List Value}, w.ownsRow 0 e s x c xs → w'.ownsRow 0 e s x c xs := fun {e s c x xs} k => own_of_cell k hf (fun _ hk => hk.elim)
  exact ⟨ho h.o, fun v hv => ho (h.r v hv), h.ap, h.z.trans (hb.mono h.z.size), h.zo, h.zr⟩
theorem cellsN_snoc (l : List (Nat × Bool)) (a : Nat) (b : Bool) : cellsN (l ++ [(a, b)]) = cellsN l ++ [.int .i64 (a : Int), .bool b] := by simp [cellsN]
theorem range_set (V : Nat → Value) (n i : Nat) (u : Value) : ((List.range n).map V).set i u = (List.range n).map (upd V i u) := by
  apply List.ext_getElem?
  intro k
  rw [List.getElem?_set]
  by_cases e : i = k
  · subst e
    by_cases h : i < n
    · simp [h, upd]
    · simp [h]
  · rw [if_neg e]
    by_cases h : k < n
    · simp [h, upd, Ne.symm e]
    · simp [h]
theorem NdS.push {gn cn id a : Nat} {b : Bool} (h : NdS w0 w (.slice (some ⟨gn, 0, none⟩) n cn) n V nd) (hid : id < n) {w3 : World} {g c : Nat} (k1 : w3.ownsRow 0 82 2 (.slice (some ⟨g, 0, none⟩) ((nd id).length + 1) c) ((nd id).length + 1) (cellsN (nd id) ++ [.int .i64 (a : Int), .bool b])) (k2 : Fr (fun k => (V id).ownBlock = some k) w w3) (k3 : Gw w (V id) (.slice (some ⟨g, 0, none⟩) ((nd id).length + 1) c)) :
    NdS w0 (w3.setCell ⟨gn, id, none⟩ (.slice (some ⟨g, 0, none⟩) ((nd id).length + 1) c)) (.slice (some ⟨gn, 0, none⟩) n cn) n (upd V id (.slice (some ⟨g, 0, none⟩) ((nd id).length + 1) c)) (upd nd id (nd id ++ [(a, b)])) ∧ Fr (TF w) w (w3.setCell ⟨gn, id, none⟩ (.slice (some ⟨g, 0, none⟩) ((nd id).length + 1) c)) := by
  have hid2 := h.r id hid
  have o3 : w3.ownsRow 0 80 1 (.slice (some ⟨gn, 0, none⟩) n cn) n ((List.range n).map V) := own_of_cell h.o k2 (fun k hk => Vl.own_ne hid2 h.o (by decide) hk)
  have o4 := own_set (j := id) o3 (.slice (some ⟨g, 0, none⟩) ((nd id).length + 1) c)
  rw [range_set] at o4
  have hf4 : Fr (fun k => k = gn) w3 (w3.setCell ⟨gn, id, none⟩ (.slice (some ⟨g, 0, none⟩) ((nd id).length + 1) c)) := Vl.Fr.one _ _ _ _
  have hg : ∀ {s c' : Nat} {x : Value} {xs : List Value}, w3.ownsRow 0 82 s x c' xs → (w3.setCell ⟨gn, id, none⟩ (.slice (some ⟨g, 0, none⟩) ((nd id).length + 1) c)).ownsRow 0 82 s x c' xs := fun {s c' x xs} k => own_of_cell k hf4 (fun k' hk' hu => by subst hk'; exact Vl.own_ne o3 k (by decide) rfl hu)
  have hz3 : Below w0.heap.size w w3 := k2.below (fun k hk => h.zr id hid k hk) h.z.size
  have hz4 : Below w0.heap.size w3 _ := hf4.below (fun k hk => by subst hk; exact h.zo _ rfl) (Nat.le_trans h.z.size k2.size)
  refine ⟨⟨o4, fun v hv => ?_, fun v u hv hu hvu => ?_, (h.z.trans hz3).trans hz4, h.zo, fun v hv k hk => ?_⟩, ?_⟩
  · by_cases e : v = id
    · subst e
      rw [upd_s, upd_s, cellsN_snoc]
      simpa using hg k1
    · rw [upd_o _ _ e, upd_o _ _ e]
      exact hg (own_of_cell (h.r v hv) k2 (fun k hk hu => h.ap id v hid hv (Ne.symm e) k hk hu))
  · intro k hk hk'
    by_cases e : v = id
    · subst e
      rw [upd_s] at hk
      rw [upd_o _ _ (Ne.symm hvu)] at hk'
      rcases k3 k hk with h5 | h5
      · exact h.ap v u hv hu hvu k h5 hk'
      · have := own_lt (h.r u hu) hk'; omega
    · rw [upd_o _ _ e] at hk
      by_cases e2 : u = id
      · subst e2
        rw [upd_s] at hk'
        rcases k3 k hk' with h5 | h5
        · exact h.ap v u hv hu hvu k hk h5
        · have := own_lt (h.r v hv) hk; omega
      · rw [upd_o _ _ e2] at hk'
        exact h.ap v u hv hu hvu k hk hk'
  · by_cases e : v = id
    · subst e
      rw [upd_s] at hk
      rcases k3 k hk with h5 | h5
      · exact h.zr v hv k h5
      · exact Nat.le_trans h.z.size h5
    · rw [upd_o _ _ e] at hk
      exact h.zr v hv k hk
  · have f1 : Fr (TF w) w w3 := k2.mono (fun k _ hk => TF.own hid2 (.inr rfl) hk)
    exact TF.trans f1 (hf4.mono (fun k _ hk => by subst hk; exact TF.own o3 (.inl rfl) rfl))
end Go.Proofs.Ytdmhajeaphnebaa.Gr
namespace Go.Proofs.Ytdmhajeaphnebaa.Gr
open Go.RowKit
open Vl (Fr)
open Sy (isLs isLs_below isLs_cells isRs isRs_below Rul)
open Tj (memB memB_iff ixN ixN_lt ixN_app ixN_new nd1 ndB ndOf ndOf_take ndR hdN idsOf idsOf_take addN heads_ids)
variable {w0 w w' : World} {nv : Value} {n : Nat} {V : Nat → Value} {nd : Nat → List (Nat × Bool)}
theorem Try.info80 : (Try.prog.info? 80).map (fun i => (i.zero, i.size, i.bytes)) = some (some (.slice none 0 0), 1, 24) := by kernel_rfl
theorem made_nils (n : Nat) : madeCells (Value.slice none 0 0).cells n = ((List.range n).map (fun _ => Value.slice none 0 0)).toArray := by
  apply Array.ext'
  apply List.ext_getElem?
  intro j
  by_cases hj : j < n
  · simp [madeCells, hj, Value.cells, Nat.mod_one]
  · simp [madeCells, hj]
theorem make_nils (n : Nat) (hl : n ≤ 1000) (W : World) : (Instr.makeSlice 45 (.int .i64 (n : Int)) (.int .i64 (n : Int))).run Try.prog W = .ok (.slice (some ⟨W.heap.size, 0, none⟩) n n) (W.alloc (.cells ((List.range n).map (fun _ => Value.slice none 0 0)).toArray 80)) := by
  obtain ⟨i, hi, hz, hsize, hby⟩ := info_parts Try.info80
  have h := run_make (P := Try.prog) W 45 80 i (.slice none 0 0) Try.underlying45 hi hz .i64 .i64 (n : Int) (n : Int) (by omega) (by omega) (by rw [hby]; omega) (by omega)
  rw [hsize, Nat.mul_one] at h
  simp only [Int.toNat_natCast] at h
  rw [made_nils] at h
  exact h
/-- The graph while the heads are numbered. -/
structure G1 (w0 w : World) (rb mb gb : Nat) (H : List ByteArray) (nv : Value) : Prop where
  mp : Mp w mb H (fun x => (ixN H x : Int))
  r : w.heap[rb]? = some (.cells #[.map none, .slice none 0 0] 47 (0, 0))
  g : w.heap[gb]? = some (.cells #[.map (some mb), nv] 47 (0, 0))
  rg : rb ≠ gb
  z : Below w0.heap.size w0 w
  zm : w0.heap.size ≤ mb
  zr : w0.heap.size ≤ rb
  zg : w0.heap.size ≤ gb
theorem G1.below {rb mb gb : Nat} {H : List ByteArray} (h : G1 w0 w rb mb gb H nv) (hb : Below w.heap.size w w') : G1 w0 w' rb mb gb H nv :=
  ⟨h.mp.below hb, (hb.block rb (Array.getElem?_eq_some_iff.1 h.r).1).trans h.r, (hb.block gb (Array.getElem?_eq_some_iff.1 h.g).1).trans h.g, h.rg, h.z.trans (hb.mono h.z.size), h.zm, h.zr, h.zg⟩
theorem ixN_snoc {H : List ByteArray} {x : ByteArray} (hx : x ∉ H) : ∀ y ∈ H ++ [x], updN (fun y => (ixN H y : Int)) x (H.length : Int) y = (ixN (H ++ [x]) y : Int) := fun y hy => by
  by_cases e : y = x
  · rw [e, updN_s, ixN_new hx]
  · rw [updN_o _ _ e, ixN_app _ (by rcases List.mem_append.1 hy with h | h; exact h; exact absurd (by simpa using h) e)]
theorem G1.put {rb mb gb : Nat} {H : List ByteArray} (h : G1 w0 w rb mb gb H nv) {x : ByteArray} (hx : Sz x) (hn : x ∉ H) (hl : H.length ≤ 1000) : ∃ w', (Instr.mapUpdate 25 (.map (some mb)) (.string x) (.int .i64 (H.length : Int))).run Try.prog w = .ok () w' ∧ G1 w0 w' rb mb gb (H ++ [x]) nv := by
  obtain ⟨w', hr, hm, ht⟩ := h.mp.put hx hn hl (H.length : Int)
  have hf := fr_turned ht
  obtain ⟨es, c, hb⟩ := h.mp.blk
  have h1 : rb ≠ mb := fun e => by subst e; rw [h.r] at hb; simp at hb
  have h2 : gb ≠ mb := fun e => by subst e; rw [h.g] at hb; simp at hb
  exact ⟨w', hr, hm.congr (ixN_snoc hn), (hf.block rb (Array.getElem?_eq_some_iff.1 h.r).1 h1).trans h.r, (hf.block gb (Array.getElem?_eq_some_iff.1 h.g).1 h2).trans h.g, h.rg, h.z.trans (hf.below (fun k hk => by subst hk; exact h.zm) h.z.size), h.zm, h.zr, h.zg⟩
theorem G1.read {rb mb gb : Nat} {H : List ByteArray} (h : G1 w0 w rb mb gb H nv) (hf : Fr (TF w) w w') (hz : Below w0.heap.size w0 w') : G1 w0 w' rb mb gb H nv := by
  obtain ⟨es, c, hb⟩ := h.mp.blk
  exact ⟨h.mp.fr hf (TF.of_map hb), (hf.block rb (Array.getElem?_eq_some_iff.1 h.r).1 (TF.of_cells h.r (by decide))).trans h.r, (hf.block gb (Array.getElem?_eq_some_iff.1 h.g).1 (TF.of_cells h.g (by decide))).trans h.g, h.rg, hz, h.zm, h.zr, h.zg⟩
theorem ndOf_upd {H : List ByteArray} {rs : List Rul} {i : Nat} (hi : i < rs.length) : upd (ndOf H (rs.take i)) (ixN H (hdN rs[i])) (ndOf H (rs.take i) (ixN H (hdN rs[i])) ++ ndB H rs[i].2) = ndOf H (rs.take (i + 1)) := by
  funext v
  rw [ndOf_take hi]
  simp only [upd, ndR]
  by_cases e : v = ixN H (hdN rs[i])
  · rw [if_pos e, if_pos e.symm, e]
  · rw [if_neg e, if_neg (fun h => e h.symm), List.append_nil]
end Go.Proofs.Ytdmhajeaphnebaa.Gr
namespace Go.Proofs.Ytdmhajeaphnebaa.Gr
open Go.RowKit
open Vl (Fr)
open Sy (isLs isLs_below isLs_cells)
open Tj (memB memB_iff ixN ixN_lt nd1 ndB ndB_take isP)
variable {w0 w w' : World} {nv : Value} {n : Nat} {V : Nat → Value} {nd : Nat → List (Nat × Bool)}
theorem Try.info82 : (Try.prog.info? 82).map (fun i => (i.zero, i.size, i.bytes)) = some (some (.agg #[.int .i64 0, .bool false]), 2, 16) := by kernel_rfl
theorem upd_same {α : Type} (f : Nat → α) (i : Nat) : upd f i (f i) = f := by
  funext k
  simp only [upd]
  split
  · rename_i h; rw [h]
  · rfl
theorem upd_upd {α : Type} (f : Nat → α) (i : Nat) (a b : α) : upd (upd f i a) i b = upd f i b := by
  funext k
  simp only [upd]
  split <;> rfl

set_option maxHeartbeats 8000000 in
set_option maxRecDepth 4000 in
theorem read_any {mb id : Nat} {H : List ByteArray} {bv : Value} {ls : List Sy.Lit} (hM : Mp w mb H (fun x => (ixN H x : Int))) (hN : NdS w0 w nv n V nd) (hB : isLs w0 ls bv) (hsz : ∀ l ∈ ls, Sz l.2.1) (hid : id < n) (hn : n ≤ 1000) (hH : H.length = n) (hl : (nd id).length + ls.length ≤ 100000) (hl2 : ls.length ≤ 1000) :
    Calls Try.prog 31 #[.agg #[.map (some mb), nv], .int .i64 (id : Int), bv] w fun x w2 => x = .returned (.tuple #[]) ∧ Fr (TF w) w w2 ∧ ∃ V', NdS w0 w2 nv n V' (upd nd id (nd id ++ ndB H ls)) := by
  obtain ⟨gn, cn, rfl, _, _, _, _⟩ := own_open hN.o (by omega)
  have hbv : ∃ ao cap, bv = .slice ao ls.length cap := by
    obtain ⟨zs, h1, h2, _⟩ := hB
    obtain ⟨ao, cap, rfl⟩ := own_sl h2
    exact ⟨ao, cap, by rw [← h1, List.length_map]⟩
  obtain ⟨ao, cap, rfl⟩ := hbv
  have HW1 : Hid (Fr (TF w) w (w.alloc (.cells #[.map (some mb), .slice (some ⟨gn, 0, none⟩) n cn] 47))) := (TF.refl w).alloc _
  have HX : Hid ((w.alloc (.cells #[.map (some mb), .slice (some ⟨gn, 0, none⟩) n cn] 47)).heap[w.heap.size]? = some (.cells #[.map (some mb), .slice (some ⟨gn, 0, none⟩) n cn] 47 (0, 0))) := heap_alloc_new _ _
  obtain ⟨W1, hW1⟩ : ∃ W1, W1 = w.alloc (.cells #[.map (some mb), .slice (some ⟨gn, 0, none⟩) n cn] 47) := ⟨_, rfl⟩
  have HM : Hid (Mp W1 mb H (fun x => (ixN H x : Int))) := by rw [hW1]; exact hM.below ((Below.refl _ _).alloc (Nat.le_refl _) _)
  have HN : Hid (NdS w0 W1 (.slice (some ⟨gn, 0, none⟩) n cn) n V nd) := by rw [hW1]; exact hN.below ((Below.refl _ _).alloc (Nat.le_refl _) _)
  rw [← hW1] at HW1 HX
  have hsW : w.heap.size < W1.heap.size := by rw [hW1]; simp
  have hidI : (id : Int) < (n : Int) := by omega
  have hnI : (n : Int) ≤ 1000 := by omega
  have hlI : (ls.length : Int) ≤ 1000 := by omega
  have HS := hide hsz
  have HL := hide hl
  have HB := hide hB
  have EW := hide hW1
  clear hM hN hB hsz hl hW1
  go_enter Try.func31, Try.ntmps31
  go_wp2_with fail
  rw [← EW.out]
  generalize w.heap.size = xb at *
  go_loopw [12] (fun iv wr => ∃ (i : Nat) (V' : Nat → Value), iv = .int .i64 (i : Int) ∧ i ≤ ls.length ∧ Hid (Fr (TF W1) W1 wr ∧ NdS w0 wr (.slice (some ⟨gn, 0, none⟩) n cn) n V' (upd nd id (nd id ++ ndB H (ls.take i))))) (fun iv _ => ls.length - (intOf iv).toNat)
  case atStart => exact ⟨0, V, rfl, Nat.zero_le _, TF.refl _, by simp only [List.take_zero, ndB, List.flatMap_nil, List.append_nil, upd_same]; exact HN.out⟩
  case round =>
    obtain ⟨i, V', rfl, hi, HI⟩ := hrel
    have HM2 : Hid (Mp wr mb H (fun x => (ixN H x : Int))) := HM.out.fr HI.out.1 (by obtain ⟨es, c, hm⟩ := HM.out.blk; exact TF.of_map hm)
    have HX2 : Hid (wr.heap[xb]? = some (.cells #[.map (some mb), .slice (some ⟨gn, 0, none⟩) n cn] 47 (0, 0))) := (HI.out.1.block xb hsW (TF.of_cells HX.out (by decide))).trans HX.out
    have HB2 := isLs_below HB.out (w' := wr) HI.out.2.z
    have HME : Hid (i < ls.length → ls.length - (intOf (.int .i64 ((i : Int) + 1))).toNat < ls.length - (intOf (.int .i64 (i : Int))).toNat) := fun h => by
      simp [intOf]; omega
    by_cases hlt : i < ls.length
    · have hltI : (i : Int) < (ls.length : Int) := by omega
      obtain ⟨g, rfl, hc⟩ := (isLs_cells HB2).2 (by omega)
      obtain ⟨va, hva, x0, x1, x2⟩ := hc i hlt
      obtain ⟨ta, tc, rfl⟩ := own_sl hva
      clear hva
      generalize ls[i].2.2.length = tn at x2
      have hszi := HS.out ls[i] (List.getElem_mem hlt)
      have htk := ndB_take (H := H) hlt
      generalize ls[i] = l at *
      obtain ⟨lk, ln, lt⟩ := l
      simp only at x0 x1 hszi
      obtain ⟨U, hU⟩ : ∃ U, U = wr.alloc (.cells #[.int .i64 lk, .string ln, .slice ta tn tc] 57) := ⟨_, rfl⟩
      have hUB : Below wr.heap.size wr U := by rw [hU]; exact (Below.refl _ _).alloc (Nat.le_refl _) _
      have hUX : U.heap[xb]? = some (.cells #[.map (some mb), .slice (some ⟨gn, 0, none⟩) n cn] 47 (0, 0)) := (hUB.block xb (Array.getElem?_eq_some_iff.1 HX2.out).1).trans HX2.out
      have hUL : U.heap[wr.heap.size]? = some (.cells #[.int .i64 lk, .string ln, .slice ta tn tc] 57 (0, 0)) := by rw [hU]; exact heap_alloc_new _ _
      have hUM := HM2.out.below hUB
      have HUN := hide (HI.out.2.below hUB)
      have HUF : Hid (Fr (TF W1) W1 U) := by show Fr _ _ _; rw [hU]; exact HI.out.1.alloc _
      have EU := hide hU
      by_cases hp : lk = 1 ∨ lk = 2
      · obtain ⟨v, hlk, hv⟩ := hUM.look hszi
        have y0 : U.cell? ⟨xb, 0, none⟩ = some (.map (some mb)) := by rw [cell_of_row _ _ 0 _ _ _ hUX]; rfl
        have y1 : U.cell? ⟨xb, 1, none⟩ = some (.slice (some ⟨gn, 0, none⟩) n cn) := by rw [cell_of_row _ _ 1 _ _ _ hUX]; rfl
        have z0 : U.cell? ⟨wr.heap.size, 0, none⟩ = some (.int .i64 lk) := by rw [cell_of_row _ _ 0 _ _ _ hUL]; rfl
        have z1 : U.cell? ⟨wr.heap.size, 1, none⟩ = some (.string ln) := by rw [cell_of_row _ _ 1 _ _ _ hUL]; rfl
        by_cases hm : memB H ln = true
        · have hmem := memB_iff.1 hm
          have hve := hv hmem
          rw [hve, hm] at hlk
          obtain ⟨on, Hon⟩ : ∃ on, Hid (on = ixN H ln) := ⟨_, rfl⟩
          rw [← Hon.out] at hlk
          have honI : (on : Int) ≤ 1000 := by have := ixN_lt hmem; rw [← Hon.out] at this; omega
          obtain ⟨R, HR⟩ : ∃ R, Hid (R = nd id ++ ndB H (ls.take i)) := ⟨_, rfl⟩
          have hRl : R.length ≤ 100000 := by
            have h1 := HL.out
            have h2 := Tj.ndB_len H (ls.take i)
            rw [HR.out, List.length_append]
            rw [List.length_take] at h2
            omega
          have hUN := HUN.out
          rw [← HR.out] at hUN
          have hrow := hUN.r id hid
          rw [upd_s] at hrow
          have Hb : Hid ((lk == 2) = decide (lk = 2)) := rfl
          obtain ⟨g', c', w3, hr, k1, k2, k3⟩ := push_row 80 82 2 16 _ Try.underlying80 Try.info82 rfl (by decide) (by decide) (W := U.drew) hrow [.int .i64 (on : Int), .bool (lk == 2)] rfl (by simp [Value.oneCell']) (by omega)
          obtain ⟨_, _, ee, -, -, hoc, hof⟩ := own_open hUN.o (by omega)
          simp only [Value.slice.injEq, Option.some.injEq, Addr.mk.injEq, and_true, true_and] at ee
          obtain ⟨rfl, rfl⟩ := ee
          have q0 : U.cell? ⟨gn, id, none⟩ = some (V' id) := (hoc id (by omega)).trans (by simp [hid])
          have qf := hof id
          have hnb : ∀ {k : Nat} {cs : Array Value} {T : Nat} {fr : Nat × Nat}, U.heap[k]? = some (.cells cs T fr) → T ≠ 82 → ¬ (V' id).ownBlock = some k := fun hk hT => own_ty hrow hk hT
          have hgn : ¬ (V' id).ownBlock = some gn := fun h => by
            obtain ⟨cur, hg⟩ := own_blk hUN.o (k := gn) rfl
            exact hnb hg (by decide) h
          have q3 := k2.out.cell (w := U.drew) q0 hgn
          have qf3 := (k2.out.frozen (w := U.drew) q0 hgn).trans qf
          have y13 := k2.out.cell (w := U.drew) y1 (hnb hUX (by decide))
          have z03 := k2.out.cell (w := U.drew) z0 (hnb hUL (by decide))
          have y1a := cell_alloc y1
          have z0a := cell_alloc z0
          have q0a := cell_alloc q0
          have HP := hide (hUN.push (a := on) (b := (lk == 2)) hid (w3 := w3) (g := g') (c := c') (by rw [upd_s]; exact k1.out) (((Fr.refl _ U).drew.trans k2.out (fun _ _ h => h))) (by rw [upd_s]; exact k3.out))
          obtain ⟨L, HLn⟩ : ∃ L, Hid (L = R.length + 1) := ⟨_, rfl⟩
          have HQ : Hid (Fr (TF W1) W1 (w3.setCell ⟨gn, id, none⟩ (.slice (some ⟨g', 0, none⟩) L c')) ∧ ∃ V2, NdS w0 (w3.setCell ⟨gn, id, none⟩ (.slice (some ⟨g', 0, none⟩) L c')) (.slice (some ⟨gn, 0, none⟩) n cn) n V2 (upd nd id (nd id ++ ndB H (ls.take (i + 1))))) := by
            have h1 := HP.out
            rw [upd_s, ← HLn.out] at h1
            refine ⟨TF.trans HUF.out h1.2, upd V' id (.slice (some ⟨g', 0, none⟩) L c'), ?_⟩
            have h2 := h1.1
            rw [upd_upd] at h2
            have e1 : nd1 H ((lk, ln, lt) : Sy.Lit) = [(on, (lk == 2))] := by rw [Hon.out, Hb.out]; exact if_pos ⟨hp, hm⟩
            rw [htk, e1, ← List.append_assoc, ← HR.out]
            exact h2
          rw [← HLn.out] at hr
          have hr' : ∀ ty, (Builtin.append_ #[80, 80] ty #[V' id, .slice (some ⟨U.heap.size, 0, none⟩) 1 1]).run Try.prog (U.drew.alloc (.cells #[.int .i64 (on : Int), .bool (lk == 2)] 82)) = .ok (.slice (some ⟨g', 0, none⟩) L c') w3 := hr
          clear hr k1 k2 k3 HP HLn hrow hoc hof hnb hgn hUN hRl HR hmem hve hv htk HUN HUF hU hUB hUX hUL hUM HM2 HX2 HB2 HI hc
          go_upto_region 4 with fail
          rw [← EU.out]
          go_cut [23] from 16 to 22 (fun v wc => v = .bool false ∧ wc = U)
          case first =>
            clear hr' q0 q0a q3 qf qf3 y0 y1 y13 y1a z03 z0a hlk
            rcases hp with rfl | rfl
            · go_wp2_with fail
              go_meet
              exact ⟨rfl, rfl⟩
            · go_wp2_with fail
              go_meet
              exact ⟨rfl, rfl⟩
          case rest =>
            obtain ⟨rfl, hcw⟩ := hcut
            rw [hcw]
            clear hcw
            go_upto_region 7 with fail
            refine wp_region_noPanic ?_
            go_region_law (refine Vl.step_append_run rfl (.tmp 40) (.tmp 46) 80 80 rfl (V' id) (.slice (some ⟨U.heap.size, 0, none⟩) 1 1) (by simp [Act.eval]) (by simp [Act.eval]) (hr' _) ?_)
            all_goals refine NoPanic.normal ?_
            all_goals clear hr' q0 q0a q3 qf qf3 y0 y1 y13 y1a z0 z03 z0a hlk
            all_goals obtain ⟨V2, HQ2⟩ := HQ.out.2
            all_goals go_wp2_with fail
            all_goals exact ⟨⟨i + 1, V2, by simp, by omega, HQ.out.1, HQ2⟩, HME.out hlt⟩
        · have hm' : memB H ln = false := by simpa using hm
          rw [hm'] at hlk
          have HN2 : Hid (NdS w0 U (.slice (some ⟨gn, 0, none⟩) n cn) n V' (upd nd id (nd id ++ ndB H (ls.take (i + 1))))) := by
            show NdS _ _ _ _ _ _
            rw [htk]
            have : nd1 H ((lk, ln, lt) : Sy.Lit) = [] := if_neg (fun h => by rw [hm'] at h; cases h.2)
            rw [this, List.append_nil]
            exact HUN.out
          clear HM2 HX2 HB2 HI hc hU hUB hUX hUL hUM HUN htk
          go_upto_region 4 with fail
          rw [← EU.out]
          go_cut [23] from 16 to 22 (fun v wc => v = .bool false ∧ wc = U)
          case first =>
            clear y0 y1 hlk
            rcases hp with rfl | rfl
            · go_wp2_with fail
              go_meet
              exact ⟨rfl, rfl⟩
            · go_wp2_with fail
              go_meet
              exact ⟨rfl, rfl⟩
          case rest =>
            obtain ⟨rfl, hcw⟩ := hcut
            rw [hcw]
            clear hcw
            go_wp2_with fail
            exact ⟨⟨i + 1, V', by simp, by omega, HUF.out, HN2.out⟩, HME.out hlt⟩
      · have z0 : U.cell? ⟨wr.heap.size, 0, none⟩ = some (.int .i64 lk) := by rw [cell_of_row _ _ 0 _ _ _ hUL]; rfl
        have h1 : ¬ (lk = 1) := fun e => hp (.inl e)
        have h2 : ¬ (lk = 2) := fun e => hp (.inr e)
        have HN2 : Hid (NdS w0 U (.slice (some ⟨gn, 0, none⟩) n cn) n V' (upd nd id (nd id ++ ndB H (ls.take (i + 1))))) := by
          show NdS _ _ _ _ _ _
          rw [htk]
          have : nd1 H ((lk, ln, lt) : Sy.Lit) = [] := if_neg (fun h => hp h.1)
          rw [this, List.append_nil]
          exact HUN.out
        have g1 : (lk != 1) = true := by simp [h1]
        have g2 : (lk != 2) = true := by simp [h2]
        clear HM2 HX2 HB2 HI hc hU hUB hUX hUL hUM HUN htk hp h1 h2
        go_upto_region 4 with fail
        rw [← EU.out]
        go_wp2_with fail
        exact ⟨⟨i + 1, V', by simp, by omega, HUF.out, HN2.out⟩, HME.out hlt⟩
    · have hie : i = ls.length := by omega
      have hge : ¬ ((i : Int) < (ls.length : Int)) := by omega
      have HE : Hid (Fr (TF w) w wr ∧ ∃ V', NdS w0 wr (.slice (some ⟨gn, 0, none⟩) n cn) n V' (upd nd id (nd id ++ ndB H ls))) := ⟨TF.trans HW1.out HI.out.1, V', by have h := HI.out.2; rw [hie, List.take_length] at h; exact h⟩
      clear HM2 HX2 HB2 HI
      go_wp2_with fail
      exact bodyPost_end (res0 rfl _ _) rfl ⟨rfl, HE.out.1, HE.out.2⟩
end Go.Proofs.Ytdmhajeaphnebaa.Gr
namespace Go.Proofs.Ytdmhajeaphnebaa.Gr
open Go.RowKit
open Vl (Fr)
open Sy (isLs isLs_below isLs_cells isRs isRs_below Rul OkR)
open Rp (isRs_cells isRs_shape)
open Tj (memB memB_iff ixN ixN_lt ixN_app ixN_new nd1 ndB ndOf ndOf_take ndR hdN idsOf idsOf_take idsOf_len addN heads_ids)
variable {w0 w w' : World} {nv : Value} {n : Nat} {V : Nat → Value} {nd : Nat → List (Nat × Bool)}
/-- Rules that were read. -/
def OkRs (rs : List Rul) : Prop := rs.length ≤ 30 ∧ ∀ q ∈ rs, OkR q
theorem heap3 (w : World) (a b c : Obj) : (((w.alloc a).alloc b).alloc c).heap[w.heap.size]? = some a ∧ (((w.alloc a).alloc b).alloc c).heap[w.heap.size + 1]? = some b ∧ (((w.alloc a).alloc b).alloc c).heap[w.heap.size + 1 + 1]? = some c := by
  refine ⟨?_, ?_, ?_⟩
  · show (((w.heap.push a).push b).push c)[w.heap.size]? = some a
    rw [Array.getElem?_push_lt (by simp; omega), Array.getElem_push_lt (by simp)]
    simp
  · show (((w.heap.push a).push b).push c)[w.heap.size + 1]? = some b
    simp [Array.getElem_push]
  · show (((w.heap.push a).push b).push c)[w.heap.size + 1 + 1]? = some c
    simp [Array.getElem_push]
theorem run_makeMap (W : World) : (Instr.makeMap 25 none).run Try.prog W = .ok (.map (some W.heap.size)) (W.alloc (.map #[] 0)) := by kernel_rfl
theorem G1.first (w : World) : G1 w (((w.alloc (.cells #[.map none, .slice none 0 0] 47)).alloc (.map #[] 0)).alloc (.cells #[.map (some (w.heap.size + 1)), .slice none 0 0] 47)) w.heap.size (w.heap.size + 1) (w.heap.size + 1 + 1) [] (.slice none 0 0) := by
  obtain ⟨h1, h2, h3⟩ := heap3 w (.cells #[.map none, .slice none 0 0] 47) (.map #[] 0) (.cells #[.map (some (w.heap.size + 1)), .slice none 0 0] 47)
  have hm : Mp ((w.alloc (.cells #[.map none, .slice none 0 0] 47)).alloc (.map #[] 0)) (w.heap.size + 1) [] (fun x => (ixN [] x : Int)) := by
    have := Mp.new (w.alloc (.cells #[.map none, .slice none 0 0] 47)) (f := fun x => (ixN [] x : Int))
    simpa using this
  refine ⟨hm.below ((Below.refl _ _).alloc (Nat.le_refl _) _), h1, h3, by omega, ?_, by omega, by omega, by omega⟩
  exact (((Below.refl _ w).alloc (Nat.le_refl _) _).alloc (by simp) _).alloc (by simp; omega) _

theorem G1.setG {rb mb gb : Nat} {H : List ByteArray} (h : G1 w0 w rb mb gb H nv) (u : Value) : G1 w0 (w.setCell ⟨gb, 1, none⟩ u) rb mb gb H u := by
  have hf : Fr (fun k => k = gb) w (w.setCell ⟨gb, 1, none⟩ u) := Vl.Fr.one _ _ _ _
  obtain ⟨es, c, hb⟩ := h.mp.blk
  have h2 : mb ≠ gb := fun e => by subst e; rw [h.g] at hb; simp at hb
  exact ⟨h.mp.fr hf h2, (hf.block rb (Array.getElem?_eq_some_iff.1 h.r).1 h.rg).trans h.r, by rw [Vl.heap_set h.g]; rfl, h.rg, h.z.trans (hf.below (fun k hk => by subst hk; exact h.zg) h.z.size), h.zm, h.zr, h.zg⟩
theorem NdS.first {W : World} {gn gb : Nat} (hg : W.heap[gn]? = some (.cells ((List.range n).map (fun _ => Value.slice none 0 0)).toArray 80 (0, 0))) (hn : n ≤ 1000) (hz : Below w0.heap.size w0 W) (h0 : w0.heap.size ≤ gn) (hgb : w0.heap.size ≤ gb) (hne : gn ≠ gb) (u : Value) : NdS w0 (W.setCell ⟨gb, 1, none⟩ u) (.slice (some ⟨gn, 0, none⟩) n n) n (fun _ => .slice none 0 0) (fun _ => []) := by
  have hf : Fr (fun k => k = gb) W (W.setCell ⟨gb, 1, none⟩ u) := Vl.Fr.one _ _ _ _
  have ho : W.ownsRow 0 80 1 (.slice (some ⟨gn, 0, none⟩) n n) n ((List.range n).map (fun _ => Value.slice none 0 0)) := ⟨by simp, .inr ⟨gn, n, _, rfl, Nat.zero_le _, hg, Nat.le_refl _, by simp only [maxLen]; omega, by simp, by simp [List.take_of_length_le]⟩⟩
  exact ⟨own_of_cell ho hf (fun k hk hu => by subst hk; simp [Value.ownBlock] at hu; exact hne hu), fun v hv => ⟨rfl, .inl ⟨rfl, rfl⟩⟩, fun v u' _ _ _ => (fun k hk => by simp [Value.ownBlock] at hk), hz.trans (hf.below (fun k hk => by subst hk; exact hgb) hz.size), fun k hk => by simp [Value.ownBlock] at hk; omega, fun v _ k hk => by simp [Value.ownBlock] at hk⟩
theorem NdS.other {k i T : Nat} {cs : Array Value} {fr : Nat × Nat} (h : NdS w0 w nv n V nd) (hk : w.heap[k]? = some (.cells cs T fr)) (hT : T ≠ 80 ∧ T ≠ 82) (h0 : w0.heap.size ≤ k) (u : Value) : NdS w0 (w.setCell ⟨k, i, none⟩ u) nv n V nd := by
  have hf : Fr (fun j => j = k) w (w.setCell ⟨k, i, none⟩ u) := Vl.Fr.one _ _ _ _
  exact ⟨own_of_cell h.o hf (fun j hj hu => by subst hj; exact own_ty h.o hk hT.1 hu), fun v hv => own_of_cell (h.r v hv) hf (fun j hj hu => by subst hj; exact own_ty (h.r v hv) hk hT.2 hu), h.ap, h.z.trans (hf.below (fun j hj => by subst hj; exact h0) h.z.size), h.zo, h.zr⟩
theorem G1.fin {rb mb gb : Nat} {H : List ByteArray} (h : G1 w0 w rb mb gb H nv) (hN : NdS w0 w nv n V nd) : ((w.setCell ⟨rb, 0, none⟩ (.map (some mb))).setCell ⟨rb, 1, none⟩ nv).heap[rb]? = some (.cells #[.map (some mb), nv] 47 (0, 0)) ∧ Mp ((w.setCell ⟨rb, 0, none⟩ (.map (some mb))).setCell ⟨rb, 1, none⟩ nv) mb H (fun x => (ixN H x : Int)) ∧ NdS w0 ((w.setCell ⟨rb, 0, none⟩ (.map (some mb))).setCell ⟨rb, 1, none⟩ nv) nv n V nd := by
  have h1 := Vl.heap_set (o := 0) h.r (.map (some mb))
  have h2 := Vl.heap_set (o := 1) h1 nv
  obtain ⟨es, c, hb⟩ := h.mp.blk
  have hne : mb ≠ rb := fun e => by subst e; rw [h.r] at hb; simp at hb
  refine ⟨by rw [h2]; rfl, (h.mp.fr (Vl.Fr.one _ _ _ _) hne).fr (Vl.Fr.one _ _ _ _) hne, ?_⟩
  exact (hN.other h.r (by decide) h.zr _).other h1 (by decide) h.zr _
set_option maxHeartbeats 8000000 in
set_option maxRecDepth 4000 in
theorem graph_any {rs : List Rul} {y : Value} (hR : isRs w rs y) (hok : OkRs rs) :
    Calls Try.prog 16 #[y] w fun x w2 => ∃ mb nv, x = .returned (.agg #[.map (some mb), nv]) ∧ Mp w2 mb (idsOf rs) (fun x => (ixN (idsOf rs) x : Int)) ∧ (∃ V, NdS w w2 nv (idsOf rs).length V (ndOf (idsOf rs) rs)) ∧ w.heap.size ≤ mb := by
  obtain ⟨ao, cap, rfl⟩ := isRs_shape hR
  have HR := hide hR
  have hl30 : (rs.length : Int) ≤ 30 := by have := hok.1; omega
  have HO := hide hok
  have HG := hide (G1.first w)
  have hHl : (idsOf rs).length ≤ 30 := Nat.le_trans (idsOf_len rs) hok.1
  obtain ⟨W0, hW0⟩ : ∃ W0, W0 = (((w.alloc (.cells #[.map none, .slice none 0 0] 47)).alloc (.map #[] 0)).alloc (.cells #[.map (some (w.heap.size + 1)), .slice none 0 0] 47)) := ⟨_, rfl⟩
  rw [← hW0] at HG
  have EW := hide hW0
  have hmm := run_makeMap
  clear hR hok hW0
  go_enter Try.func16, Try.ntmps16
  go_wp2_with fail
  rw [← EW.out]
  obtain ⟨rb, hrb⟩ : ∃ rb, rb = w.heap.size := ⟨_, rfl⟩
  obtain ⟨mb, hmb⟩ : ∃ mb, mb = w.heap.size + 1 := ⟨_, rfl⟩
  obtain ⟨gb, hgb⟩ : ∃ gb, gb = w.heap.size + 1 + 1 := ⟨_, rfl⟩
  rw [← hgb, ← hmb, ← hrb] at HG
  rw [← hgb, ← hmb, ← hrb]
  clear EW hmm
  have HC2 : Hid (∀ (W : World) (H : List ByteArray) (nv : Value), G1 w W rb mb gb H nv → W.cell? ⟨gb, 0, none⟩ = some (.map (some mb)) ∧ W.cell? ⟨gb, 1, none⟩ = some nv) := fun W H nv h => ⟨by rw [cell_of_row _ _ 0 _ _ _ h.g]; rfl, by rw [cell_of_row _ _ 1 _ _ _ h.g]; rfl⟩
  clear hgb hmb hrb
  go_loopw [5, 6, 7, 14] (fun _ _ _ iv wr => ∃ i : Nat, iv = .int .i64 (i : Int) ∧ i ≤ rs.length ∧ Hid (G1 w wr rb mb gb (idsOf (rs.take i)) (.slice none 0 0))) (fun _ _ _ iv _ => rs.length - (intOf iv).toNat)
  case atStart => exact ⟨0, rfl, Nat.zero_le _, HG.out⟩
  case round =>
    obtain ⟨i, rfl, hi, HI⟩ := hrel
    clear HG
    have HME : Hid (i < rs.length → rs.length - (intOf (.int .i64 ((i : Int) + 1))).toNat < rs.length - (intOf (.int .i64 (i : Int))).toNat) := fun h => by
      simp [intOf]; omega
    have hRr := isRs_below HR.out (w' := wr) HI.out.z
    by_cases hlt : i < rs.length
    · have hltI : (i : Int) < (rs.length : Int) := by omega
      obtain ⟨g, rfl, hc⟩ := (isRs_cells hRr).2 (by omega)
      obtain ⟨va, vb, hva, hvb, x0, x1, x2, x3⟩ := hc i hlt
      obtain ⟨ta, tc, rfl⟩ := own_sl hva
      have hbl : ∃ ba bc, vb = .slice ba rs[i].2.length bc := by
        obtain ⟨zs, h1, h2, _⟩ := hvb
        obtain ⟨ao', cap', rfl⟩ := own_sl h2
        exact ⟨ao', cap', by rw [← h1, List.length_map]⟩
      obtain ⟨ba, bc, rfl⟩ := hbl
      have hsz : Sz rs[i].1.2.1 := by have := (HO.out.2 rs[i] (List.getElem_mem hlt)).head.name; unfold Sz; omega
      have htk := idsOf_take hlt
      unfold hdN at htk
      clear hva hvb hc hRr
      generalize rs[i].1.2.2.length = tn at x2
      generalize rs[i].2.length = bn at x3
      generalize rs[i].1.1 = kd at x0
      generalize rs[i].1.2.1 = nm at x1 hsz htk
      obtain ⟨U, hU⟩ : ∃ U, U = wr.alloc (.cells #[.int .i64 kd, .string nm, .slice ta tn tc, .slice ba bn bc] 60) := ⟨_, rfl⟩
      have hUB : Below wr.heap.size wr U := by rw [hU]; exact (Below.refl _ _).alloc (Nat.le_refl _) _
      have hUL : U.heap[wr.heap.size]? = some (.cells #[.int .i64 kd, .string nm, .slice ta tn tc, .slice ba bn bc] 60 (0, 0)) := by rw [hU]; exact heap_alloc_new _ _
      have HU := hide (HI.out.below hUB)
      have y1 : U.cell? ⟨wr.heap.size, 1, none⟩ = some (.string nm) := by rw [cell_of_row _ _ 1 _ _ _ hUL]; rfl
      obtain ⟨y0, _⟩ := HC2.out _ _ _ HU.out
      obtain ⟨v, hlk, hv⟩ := HU.out.mp.look hsz
      have hll : (idsOf (rs.take i)).length ≤ 30 := by have h1 := idsOf_len (rs.take i); rw [List.length_take] at h1; omega
      have EU := hide hU
      by_cases hm : memB (idsOf (rs.take i)) nm = true
      · rw [hm, hv (memB_iff.1 hm)] at hlk
        have HN : Hid (G1 w U rb mb gb (idsOf (rs.take (i + 1))) (.slice none 0 0)) := by
          show G1 _ _ _ _ _ _ _
          rw [htk, addN, if_pos hm]
          exact HU.out
        clear hUB hUL hU HU HI htk hv
        go_upto_region 5 with fail
        rw [← EU.out]
        go_wp2_with fail
        exact ⟨⟨i + 1, by simp, by omega, HN.out⟩, HME.out hlt⟩
      · have hm' : memB (idsOf (rs.take i)) nm = false := by simpa using hm
        rw [hm'] at hlk
        obtain ⟨w4, hup, hG4⟩ := HU.out.put hsz (fun h => hm (memB_iff.2 h)) (by omega)
        have hlen := HU.out.mp.len
        have HN : Hid (G1 w w4 rb mb gb (idsOf (rs.take (i + 1))) (.slice none 0 0)) := by
          show G1 _ _ _ _ _ _ _
          rw [htk, addN, if_neg hm]
          exact hG4
        have hllI : ((idsOf (rs.take i)).length : Int) ≤ 30 := by omega
        generalize (idsOf (rs.take i)).length = hn at *
        clear hUB hUL hU HU HI htk hv hG4 hm
        go_upto_region 5 with fail
        rw [← EU.out]
        go_wp2_with fail
        exact ⟨⟨i + 1, by simp, by omega, HN.out⟩, HME.out hlt⟩
    · have hie : i = rs.length := by omega
      have hge : ¬ ((i : Int) < (rs.length : Int)) := by omega
      have hG := HI.out
      rw [hie, List.take_length] at hG
      obtain ⟨n, hn⟩ : ∃ n, n = (idsOf rs).length := ⟨_, rfl⟩
      have hlen := hG.mp.len
      rw [← hn] at hlen hHl
      have hnI : (n : Int) ≤ 30 := by omega
      have hmk := make_nils n (by omega)
      obtain ⟨y0, y1⟩ := HC2.out _ _ _ hG
      have fz : wr.frozen? ⟨gb, 1, none⟩ = false := frozen_of_row _ _ _ _ _ hG.g
      have hA : Below wr.heap.size wr (wr.alloc (.cells ((List.range n).map (fun _ => Value.slice none 0 0)).toArray 80)) := (Below.refl _ _).alloc (Nat.le_refl _) _
      have hltg := (Array.getElem?_eq_some_iff.1 hG.g).1
      have fza := frozen_of_row _ _ 1 _ _ (hG.below hA).g
      have y1a := (HC2.out _ _ _ (hG.below hA)).2
      have HG2 := hide ((hG.below hA).setG (.slice (some ⟨wr.heap.size, 0, none⟩) n n))
      have HN2 : Hid (NdS w ((wr.alloc (.cells ((List.range n).map (fun _ => Value.slice none 0 0)).toArray 80)).setCell ⟨gb, 1, none⟩ (.slice (some ⟨wr.heap.size, 0, none⟩) n n)) (.slice (some ⟨wr.heap.size, 0, none⟩) n n) n (fun _ => .slice none 0 0) (fun _ => [])) := NdS.first (heap_alloc_new _ _) (by omega) (hG.z.trans (hA.mono hG.z.size)) hG.z.size hG.zg (by omega) _
      obtain ⟨gn, hgn⟩ : ∃ gn, gn = wr.heap.size := ⟨_, rfl⟩
      obtain ⟨W2, hW2⟩ : ∃ W2, W2 = (wr.alloc (.cells ((List.range n).map (fun _ => Value.slice none 0 0)).toArray 80)).setCell ⟨gb, 1, none⟩ (.slice (some ⟨wr.heap.size, 0, none⟩) n n) := ⟨_, rfl⟩
      rw [← hW2, ← hgn] at HG2 HN2
      have EW := hide hW2
      have EG := hide hgn
      have HN := hide hn
      have hRr : Hid (∀ W, Below w.heap.size w W → isRs W rs (.slice ao rs.length cap)) := fun W hb => isRs_below HR.out hb
      clear HI hG hA hltg hW2 hgn hn
      go_upto_region 10 with fail
      rw [← EW.out, ← EG.out]
      clear EW EG hmk hlen y0 y1 fz fza y1a
      go_wp2_with fail
      go_loopw [9, 45] (fun _ jv wq => ∃ (j : Nat) (V : Nat → Value), jv = .int .i64 (j : Int) ∧ j ≤ rs.length ∧ Hid (G1 w wq rb mb gb (idsOf rs) (.slice (some ⟨gn, 0, none⟩) n n) ∧ NdS w wq (.slice (some ⟨gn, 0, none⟩) n n) n V (ndOf (idsOf rs) (rs.take j)))) (fun _ jv _ => rs.length - (intOf jv).toNat)
      case atStart => exact ⟨0, _, rfl, Nat.zero_le _, HG2.out, HN2.out⟩
      case round =>
        obtain ⟨j, V, rfl, hj, HJ⟩ := hrel
        clear HG2 HN2
        have HME : Hid (j < rs.length → rs.length - (intOf (.int .i64 ((j : Int) + 1))).toNat < rs.length - (intOf (.int .i64 (j : Int))).toNat) := fun h => by
          simp [intOf]; omega
        by_cases hlt : j < rs.length
        · have hltI : (j : Int) < (rs.length : Int) := by omega
          have hRj := hRr.out wr HJ.out.1.z
          obtain ⟨g, rfl, hc⟩ := (isRs_cells hRj).2 (by omega)
          obtain ⟨va, vb, hva, hvb, x0, x1, x2, x3⟩ := hc j hlt
          obtain ⟨ta, tc, rfl⟩ := own_sl hva
          have hvb0 : ∃ vb0, isLs w rs[j].2 vb0 ∧ vb0 = vb := by
            obtain ⟨g', e', hc'⟩ := (isRs_cells HR.out).2 (by omega)
            simp only [Option.some.injEq, Addr.mk.injEq, and_true] at e'
            subst e'
            obtain ⟨_, vb', _, h1, _, _, _, h2⟩ := hc' j hlt
            refine ⟨vb', h1, ?_⟩
            have h3 := cell_bel h2 (HJ.out.1.z.mono (Nat.le_refl _))
            rw [x3] at h3
            simpa using h3.symm
          obtain ⟨vb', hvb0, hve⟩ := hvb0
          rw [hve] at hvb0
          clear hve
          have hbl : ∃ ba bc, vb = .slice ba rs[j].2.length bc := by
            obtain ⟨zs, h1, h2, _⟩ := hvb
            obtain ⟨ao', cap', rfl⟩ := own_sl h2
            exact ⟨ao', cap', by rw [← h1, List.length_map]⟩
          obtain ⟨ba, bc, rfl⟩ := hbl
          have hoj := HO.out.2 rs[j] (List.getElem_mem hlt)
          have hsz : Sz rs[j].1.2.1 := by have := hoj.head.name; unfold Sz; omega
          have hmem : rs[j].1.2.1 ∈ idsOf rs := ((heads_ids rs).mem _).2 ⟨rs[j], List.getElem_mem hlt, rfl⟩
          have hix := ixN_lt hmem
          rw [← HN.out] at hix
          have hupd := ndOf_upd (H := idsOf rs) hlt
          unfold hdN at hupd
          have hnl : (ndOf (idsOf rs) (rs.take j) (ixN (idsOf rs) rs[j].1.2.1)).length + rs[j].2.length ≤ 100000 := by
            have h1 := Tj.ndOf_len (idsOf rs) (ixN (idsOf rs) rs[j].1.2.1) 6 (rs.take j) (fun r hr => (HO.out.2 r (List.mem_of_mem_take hr)).few)
            have h2 := hoj.few
            have h3 : (rs.take j).length ≤ 30 := by rw [List.length_take]; have := HO.out.1; omega
            have h4 : (rs.take j).length * 6 ≤ 30 * 6 := Nat.mul_le_mul_right 6 h3
            omega
          have hszb : ∀ l ∈ rs[j].2, Sz l.2.1 := fun l hl => by have := (hoj.body l hl).name; unfold Sz; omega
          have hb6 : rs[j].2.length ≤ 1000 := by have := hoj.few; omega
          obtain ⟨U, hU⟩ : ∃ U, U = wr.alloc (.cells #[.int .i64 rs[j].1.1, .string rs[j].1.2.1, .slice ta rs[j].1.2.2.length tc, .slice ba rs[j].2.length bc] 60) := ⟨_, rfl⟩
          have hUB : Below wr.heap.size wr U := by rw [hU]; exact (Below.refl _ _).alloc (Nat.le_refl _) _
          have hUL : U.heap[wr.heap.size]? = some (.cells #[.int .i64 rs[j].1.1, .string rs[j].1.2.1, .slice ta rs[j].1.2.2.length tc, .slice ba rs[j].2.length bc] 60 (0, 0)) := by rw [hU]; exact heap_alloc_new _ _
          have hGU := HJ.out.1.below hUB
          have hNU := HJ.out.2.below hUB
          have HC : Hid (Calls Try.prog 31 #[.agg #[.map (some mb), .slice (some ⟨gn, 0, none⟩) n n], .int .i64 (ixN (idsOf rs) rs[j].1.2.1 : Int), .slice ba rs[j].2.length bc] U fun x w2 => x = .returned (.tuple #[]) ∧ ∃ V2, Hid (G1 w w2 rb mb gb (idsOf rs) (.slice (some ⟨gn, 0, none⟩) n n) ∧ NdS w w2 (.slice (some ⟨gn, 0, none⟩) n n) n V2 (ndOf (idsOf rs) (rs.take (j + 1))))) := (read_any hGU.mp hNU hvb0 hszb hix (by omega) HN.out.symm hnl hb6).mono (fun x w2 hx => by
            obtain ⟨h1, h2, V2, h3⟩ := hx
            rw [hupd] at h3
            exact ⟨h1, V2, hGU.read h2 h3.z, h3⟩)
          have hget := hGU.mp.get hmem
          obtain ⟨y0, y1⟩ := HC2.out _ _ _ hGU
          have z1 : U.cell? ⟨wr.heap.size, 1, none⟩ = some (.string rs[j].1.2.1) := by rw [cell_of_row _ _ 1 _ _ _ hUL]; rfl
          have z3 : U.cell? ⟨wr.heap.size, 3, none⟩ = some (.slice ba rs[j].2.length bc) := by rw [cell_of_row _ _ 3 _ _ _ hUL]; rfl
          have EU := hide hU
          clear hU hUB hUL hGU hNU hupd hnl hszb hvb0 hvb hva hc hRj hmem hix hoj hsz hb6
          generalize ixN (idsOf rs) rs[j].1.2.1 = ix at hget HC
          generalize rs[j].1.2.1 = nm at *
          generalize rs[j].2.length = bn at *
          generalize rs[j].1.2.2.length = tn at *
          generalize rs[j].1.1 = kd at *
          go_upto_region 13 with fail
          rw [← EU.out]
          go_wp2_with fail
          refine Calls.mono HC.out ?_
          rintro x w2 ⟨rfl, V2, HX⟩
          clear hget y0 y1 z1 z3 HC x0 x1 x2 x3
          go_wp2_with fail
          exact ⟨⟨j + 1, V2, by simp, by omega, HX.out⟩, HME.out hlt⟩
        · have hje : j = rs.length := by omega
          have hge : ¬ ((j : Int) < (rs.length : Int)) := by omega
          have hG := HJ.out.1
          have hNd := HJ.out.2
          rw [hje, List.take_length] at hNd
          obtain ⟨y0, y1⟩ := HC2.out _ _ _ hG
          have r0 : wr.cell? ⟨rb, 0, none⟩ = some (.map none) := by rw [cell_of_row _ _ 0 _ _ _ hG.r]; rfl
          have r1 : wr.cell? ⟨rb, 1, none⟩ = some (.slice none 0 0) := by rw [cell_of_row _ _ 1 _ _ _ hG.r]; rfl
          have r1' : (wr.setCell ⟨rb, 0, none⟩ (.map (some mb))).cell? ⟨rb, 1, none⟩ = some (.slice none 0 0) := by rw [cell_of_row _ _ 1 _ _ _ (Vl.heap_set (o := 0) hG.r (.map (some mb)))]; rfl
          have f0 : wr.frozen? ⟨rb, 0, none⟩ = false := frozen_of_row _ _ _ _ _ hG.r
          have f1 : (wr.setCell ⟨rb, 0, none⟩ (.map (some mb))).frozen? ⟨rb, 1, none⟩ = false := frozen_of_row _ _ _ _ _ (Vl.heap_set (o := 0) hG.r (.map (some mb)))
          have HF := hide (hG.fin hNd)
          have HZ := hide hG.zm
          clear hG hNd HJ
          go_wp2_with fail
          refine bodyPost_ret (results_cell_row rfl _ _ rb 47 _ (0, 0) _ rfl HF.out.1 Try.underlying47 rfl (by kernel_rfl)) rfl ⟨mb, _, rfl, HF.out.2.1, ⟨V, ?_⟩, HZ.out⟩
          have h := HF.out.2.2
          rw [HN.out] at h ⊢
          exact h
end Go.Proofs.Ytdmhajeaphnebaa.Gr

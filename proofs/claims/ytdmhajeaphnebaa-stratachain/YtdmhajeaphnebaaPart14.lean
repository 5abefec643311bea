/- leave, where the path goes on. The walk's state as a whole: what is in memory and what stands of it, with the rounds that are left: mathematics and memory. No walk. A map from names to numbers, in memory: its list of names with their numbers. No walk. leave, where the path goes on and the circle is settled. look and leave over the walk's state as a whole. No walk. -/
import Derived.Test.YtdmhajeaphnebaaPart13
import Derived.Test.YtdmhajeaphnebaaPart12
import Derived.Maps.OwnSet
import Derived.Maps.Ext
import Derived.Maps.RangeWalk
import Derived.Deep.CutRange
namespace Go.Proofs.Ytdmhajeaphnebaa.Gr
open Go.RowKit
open Vl (Fr)
open Tj (ng ng_nn)
variable {w0 w w' : World} {qb : Nat} {nv pv ov mv lv sv : Value} {n cnt : Nat} {path : List (Nat × Nat)} {opn : List Nat} {met low st : Nat → Int} {nd : Nat → List (Nat × Bool)}

set_option maxHeartbeats 4000000 in
theorem leave_true {q : List (Nat × Nat)} {back kb id k : Nat} (h : Wk w0 w qb nv pv ov mv lv sv n cnt (q ++ [(back, kb)] ++ [(id, k)]) opn met low st nd) (hlo : low id < met id) (hid : id < n) (hba : back < n) (hne : id ≠ back) (hn : n ≤ 1000) (hq : q.length ≤ 1000) :
    Calls Try.prog 42 #[.pointer (some ⟨qb, 0, none⟩)] w fun e w' => e = .returned (.bool true) ∧ ∃ pv', Wk w0 w' qb nv pv' ov mv lv sv n cnt (q ++ [(back, kb)]) opn met (upd low back (min (low back) (low id))) st nd := by
  obtain ⟨gp, cp, rfl, hcp, hcm, hpc, _⟩ := own_open h.p (by simp)
  obtain ⟨gm, cm, rfl, _, _, hmc, _⟩ := own_open h.m (by omega)
  obtain ⟨gl, cl, rfl, _, _, hlc, hlf⟩ := own_open h.l (by omega)
  obtain ⟨_, c1, _, _, _, _, _⟩ := h.c
  have f1 := h.fz 1
  have x0 : w.cell? ⟨gp, (q.length + 1) * 2, none⟩ = some (.int .i64 (id : Int)) := (hpc ((q.length + 1) * 2) (by simp)).trans (by
    have := cellsP_last (q ++ [(back, kb)]) id k
    simpa [num] using this)
  have H1 := hide h.cutP.drew.drew
  have el1 : (q ++ [(back, kb)] ++ [(id, k)]).length = q.length + 2 := by simp
  have el2 : (q ++ [(back, kb)]).length = q.length + 1 := by simp
  rw [el1] at c1 hcp
  rw [el2] at H1
  have e1 := H1.out.c.2.1
  have e4 := H1.out.c.2.2.2.2.1
  have e5 := H1.out.c.2.2.2.2.2.1
  obtain ⟨_, _, ee, _, _, hpc1, _⟩ := own_open H1.out.p (by simp)
  simp only [el2, Value.slice.injEq, Option.some.injEq, Addr.mk.injEq, and_true, true_and] at ee
  obtain ⟨rfl, rfl⟩ := ee
  have y0 := (hpc1 (q.length * 2) (by simp)).trans (cellsP_last q back kb)
  unfold num at y0
  obtain ⟨_, _, ee, _, _, hmc, _⟩ := own_open H1.out.m (by omega)
  simp only [Value.slice.injEq, Option.some.injEq, Addr.mk.injEq, and_true, true_and] at ee
  obtain ⟨rfl, rfl⟩ := ee
  obtain ⟨_, _, ee, _, _, hlc, hlf⟩ := own_open H1.out.l (by omega)
  simp only [Value.slice.injEq, Option.some.injEq, Addr.mk.injEq, and_true, true_and] at ee
  obtain ⟨rfl, rfl⟩ := ee
  have xm := (hmc id (by omega)).trans (rowI_get met hid)
  have xl := (hlc id (by omega)).trans (rowI_get low hid)
  have xb := (hlc back (by omega)).trans (rowI_get low hba)
  have fb := hlf back
  have H2 := hide (H1.out.setL back (min (low back) (low id))).drew.drew
  have e42 := H2.out.c.2.2.2.2.1
  have e52 := H2.out.c.2.2.2.2.2.1
  obtain ⟨_, _, ee, _, _, hmc2, _⟩ := own_open H2.out.m (by omega)
  simp only [Value.slice.injEq, Option.some.injEq, Addr.mk.injEq, and_true, true_and] at ee
  obtain ⟨rfl, rfl⟩ := ee
  obtain ⟨_, _, ee, _, _, hlc2, _⟩ := own_open H2.out.l (by omega)
  simp only [Value.slice.injEq, Option.some.injEq, Addr.mk.injEq, and_true, true_and] at ee
  obtain ⟨rfl, rfl⟩ := ee
  have xm2 := (hmc2 id (by omega)).trans (rowI_get met hid)
  have xl2 := (hlc2 id (by omega)).trans (rowI_get _ hid)
  rw [upd_o _ _ hne] at xl2
  have hidI : (id : Int) < (n : Int) := by omega
  have hbaI : (back : Int) < (n : Int) := by omega
  have hnI : (n : Int) ≤ 1000 := by omega
  generalize met id = mi at xm xm2 hlo
  generalize low id = li at xl xl2 hlo H2 e42 e52 xm2 ⊢
  generalize low back = lb at xb H2 e42 e52 xm2 xl2 ⊢
  clear hpc hpc1 hmc hlc hmc2 hlc2 h hlf el1 el2
  generalize hm : q.length = m at *
  obtain ⟨w1, hw1⟩ : ∃ w1, w1 = (w.setCell ⟨qb, 1, none⟩ (.slice (some ⟨gp, 0, none⟩) (m + 1) cp)).drew.drew := ⟨_, rfl⟩
  rw [← hw1] at e1 e4 e5 xm xl xb fb y0 H1 H2 e42 e52 xm2 xl2
  have HW1 := hide hw1
  obtain ⟨w2, hw2⟩ : ∃ w2, w2 = (w1.setCell ⟨gl, back, none⟩ (.int .i64 (min lb li))).drew.drew := ⟨_, rfl⟩
  rw [← hw2] at e42 e52 xm2 xl2 H2
  have HW2 := hide hw2
  clear hw1 hw2 hm
  go_enter Try.func42, Try.ntmps42
  go_upto_region 1 with fail
  go_region
  go_upto_region 2 with fail
  refine wp_region_noPanic ?_
  go_region
  refine NoPanic.normal ?_
  rw [← HW1.out]
  clear HW1 c1 f1 x0
  go_upto_region 4 with fail
  go_region
  go_upto_region 5 with fail
  refine wp_region_noPanic ?_
  go_region
  refine NoPanic.normal ?_
  rw [← HW2.out]
  clear HW2 e1 e4 e5 xm xl xb fb y0
  have hmm : decide (li < mi) = true := by simp [hlo]
  go_upto_region 6 with fail
  go_region
  go_wp2_with fail
  go_ret
  exact ⟨rfl, _, H2.out.drew⟩
end Go.Proofs.Ytdmhajeaphnebaa.Gr
namespace Go.Proofs.Ytdmhajeaphnebaa.Gr
open Go.RowKit
open Vl (Fr)
open Tj (ng ng_nn Inv Rch Sol up up_s up_o count_lt)
variable {w0 w w' : World} {qb : Nat} {nv pv ov mv lv sv : Value} {n cnt : Nat} {path : List (Nat × Nat)} {opn : List Nat} {met low nxt : Nat → Nat} {st : Nat → Int} {nd : Nat → List (Nat × Bool)}

theorem nil_or_snoc {α : Type} (l : List α) : l = [] ∨ ∃ q x, l = q ++ [x] := by
  induction l with
  | nil => exact .inl rfl
  | cons a l ih =>
    rcases ih with rfl | ⟨q, x, rfl⟩
    · exact .inr ⟨[], a, rfl⟩
    · exact .inr ⟨a :: q, x, rfl⟩
def zf (f : Nat → Nat) : Nat → Int := fun v => (f v : Int)
theorem zf_up (f : Nat → Nat) (a c : Nat) : upd (zf f) a (c : Int) = zf (up f a c) := by
  funext v
  simp only [upd, zf, up]
  split <;> rfl
def sumN (n : Nat) (f : Nat → Nat) : Nat := ((List.range n).map f).sum
theorem sum_le : ∀ (l : List Nat) (f g : Nat → Nat), (∀ v ∈ l, g v ≤ f v) → (l.map g).sum ≤ (l.map f).sum
  | [], _, _, _ => Nat.le_refl _
  | x :: r, f, g, h => by
    have h1 := h x (by simp)
    have h2 := sum_le r f g (fun v hv => h v (by simp [hv]))
    simp only [List.map_cons, List.sum_cons]
    omega
theorem sum_lt : ∀ (l : List Nat) (f g : Nat → Nat), (∀ v ∈ l, g v ≤ f v) → ∀ a ∈ l, g a < f a → (l.map g).sum < (l.map f).sum
  | [], _, _, _, _, h, _ => by cases h
  | x :: r, f, g, h, a, ha, hl => by
    have h1 := h x (by simp)
    have h2 := sum_le r f g (fun v hv => h v (by simp [hv]))
    simp only [List.map_cons, List.sum_cons]
    rcases List.mem_cons.1 ha with e | ha
    · subst e; omega
    · have := sum_lt r f g (fun v hv => h v (by simp [hv])) a ha hl
      omega
theorem sumN_lt {n : Nat} {f g : Nat → Nat} (h : ∀ v, v < n → g v ≤ f v) {a : Nat} (ha : a < n) (hl : g a < f a) : sumN n g < sumN n f := sum_lt _ f g (fun v hv => h v (by simpa using hv)) a (by simpa using ha) hl
/-- What a predicate still costs. -/
def cost (nd : Nat → List (Nat × Bool)) (path : List (Nat × Nat)) (met nxt : Nat → Nat) (v : Nat) : Nat := if met v = 0 then (nd v).length + 2 else if v ∈ path.map (·.1) then (nd v).length - nxt v + 1 else 0
/-- The walk's state, k rounds at most from its end. -/
structure Wv (w0 w : World) (qb : Nat) (nv mv lv sv : Value) (n : Nat) (nd : Nat → List (Nat × Bool)) (path : List (Nat × Nat)) (opn : List Nat) (met low nxt : Nat → Nat) (cnt : Nat) (st : Nat → Int) (k : Nat) : Prop where
  wk : ∃ pv ov, Wk w0 w qb nv pv ov mv lv sv n cnt path opn (zf met) (zf low) st nd
  inv : Inv nd n (path.map (·.1)) opn nxt met low cnt st
  nx : ∀ p ∈ path, nxt p.1 = p.2
  cn : cnt ≤ (List.range n).countP (fun v => decide (met v ≠ 0))
  kk : ∃ K, K + opn.length ≤ cnt ∧ ∀ v, v < n → st v ≤ (K : Int)
  pl : path.length ≤ cnt
  jl : ∀ p ∈ path, p.2 ≤ (nd p.1).length
  ms : sumN n (cost nd path met nxt) ≤ k
theorem Wv.cnt_le {k : Nat} (h : Wv w0 w qb nv mv lv sv n nd path opn met low nxt cnt st k) : cnt ≤ n := by
  have h1 := h.cn
  have h2 := List.countP_le_length (p := fun v => decide (met v ≠ 0)) (l := List.range n)
  rw [List.length_range] at h2
  omega
theorem Wv.stb {k : Nat} (h : Wv w0 w qb nv mv lv sv n nd path opn met low nxt cnt st k) (hn : n ≤ 1000) : ∀ v, v < n → -1 ≤ st v ∧ st v ≤ 1000 := fun v hv => by
  obtain ⟨K, h1, h2⟩ := h.kk
  have h3 := h.cnt_le
  have h4 := h2 v hv
  refine ⟨?_, by omega⟩
  by_cases e : met v = 0
  · rw [h.inv.un v hv e]; exact Int.le_refl _
  · by_cases e2 : v ∈ opn
    · rw [(h.inv.on v e2).2.2.2]; exact Int.le_refl _
    · have := h.inv.cl v hv e e2; omega
theorem Wv.opl {k : Nat} (h : Wv w0 w qb nv mv lv sv n nd path opn met low nxt cnt st k) : opn.length ≤ cnt := by
  obtain ⟨K, h1, h2⟩ := h.kk; omega
theorem Wv.below {k : Nat} (h : Wv w0 w qb nv mv lv sv n nd path opn met low nxt cnt st k) (hb : Below w.heap.size w w') : Wv w0 w' qb nv mv lv sv n nd path opn met low nxt cnt st k := by
  obtain ⟨pv, ov, hw⟩ := h.wk
  exact ⟨⟨pv, ov, hw.below hb⟩, h.inv, h.nx, h.cn, h.kk, h.pl, h.jl, h.ms⟩
theorem Wv.pos {q : List (Nat × Nat)} {a j k : Nat} (h : Wv w0 w qb nv mv lv sv n nd (q ++ [(a, j)]) opn met low nxt cnt st k) : ∃ k', k = k' + 1 := by
  have ha := h.inv.on a (h.inv.pin a (by simp))
  have := sumN_lt (n := n) (f := cost nd (q ++ [(a, j)]) met nxt) (g := fun _ => 0) (fun v _ => Nat.zero_le _) ha.1 (by
    unfold cost
    rw [if_neg ha.2.1, if_pos (by simp)]
    omega)
  have := h.ms
  exact ⟨k - 1, by omega⟩
theorem last_mem {q : List (Nat × Nat)} {a k : Nat} : a ∈ (q ++ [(a, k)]).map (·.1) := by simp
/-- The last of the path, in memory: its next need is written. -/
theorem cellsP_set (q : List (Nat × Nat)) (a k m : Nat) : (cellsP (q ++ [(a, k)])).set (q.length * 2 + 1) (.int .i64 (m : Int)) = cellsP (q ++ [(a, m)]) := by
  rw [cellsP_app, cellsP_app, List.set_append_right _ _ (by rw [cellsP_len]; omega), cellsP_len]
  have e : q.length * 2 + 1 - q.length * 2 = 1 := by omega
  rw [e]
  rfl
theorem Wk.setN {q : List (Nat × Nat)} {a k g c : Nat} {met low : Nat → Int} (h : Wk w0 w qb nv (.slice (some ⟨g, 0, none⟩) (q ++ [(a, k)]).length c) ov mv lv sv n cnt (q ++ [(a, k)]) opn met low st nd) (m : Nat) : Wk w0 (w.setCell ⟨g, q.length * 2 + 1, none⟩ (.int .i64 (m : Int))) qb nv (.slice (some ⟨g, 0, none⟩) (q ++ [(a, k)]).length c) ov mv lv sv n cnt (q ++ [(a, m)]) opn met low st nd := by
  have hf : Fr (fun k => k = g) w (w.setCell ⟨g, q.length * 2 + 1, none⟩ (.int .i64 (m : Int))) := Vl.Fr.one _ _ _ _
  obtain ⟨cur, hg⟩ := own_blk h.p (k := g) rfl
  have hq : qb ≠ g := fun e => by subst e; rw [h.b] at hg; simp at hg
  have hm := own_set (j := q.length * 2 + 1) h.p (.int .i64 (m : Int))
  rw [cellsP_set] at hm
  have el : (q ++ [(a, m)]).length = (q ++ [(a, k)]).length := by simp
  have nt : ∀ {e s c' : Nat} {x : Value} {xs : List Value}, w.ownsRow 0 e s x c' xs → e ≠ 95 → x.ownBlock ≠ some g := fun {e s c' x xs} ho he hu => own_ty ho hg (fun e' => he e'.symm) hu
  refine ⟨(hf.block qb (Array.getElem?_eq_some_iff.1 h.b).1 hq).trans h.b, by rw [el]; exact hm, own_of_cell h.o hf (fun k hk hu => by subst hk; exact nt h.o (by decide) hu), own_of_cell h.m hf (fun k hk hu => by subst hk; exact nt h.m (by decide) hu), own_of_cell h.l hf (fun k hk hu => by subst hk; exact nt h.l (by decide) hu), own_of_cell h.s hf (fun k hk hu => by subst hk; exact nt h.s (by decide) hu), h.nd.fr hf (fun k hk cs T fr hc => ?_), h.om, h.ol, h.os, h.ml, h.ms, h.ls, h.z.one (.inr (.inl rfl)) _ _⟩
  subst hk
  rw [hg] at hc
  simp at hc
  obtain ⟨_, rfl, _⟩ := hc
  decide
theorem nx_adv {q : List (Nat × Nat)} {a k : Nat} (hn : ((q ++ [(a, k)]).map (·.1)).Pairwise (fun a b => met a < met b)) (h : ∀ p ∈ q ++ [(a, k)], nxt p.1 = p.2) : ∀ p ∈ q ++ [(a, k + 1)], up nxt a (nxt a + 1) p.1 = p.2 := by
  intro p hp
  rcases List.mem_append.1 hp with hp | hp
  · have hne : p.1 ≠ a := fun e => by
      rw [List.map_append, List.pairwise_append] at hn
      have := hn.2.2 p.1 (List.mem_map_of_mem hp) a (by simp)
      rw [e] at this; omega
    rw [up_o _ _ hne]
    exact h p (by simp [hp])
  · have : p = (a, k + 1) := by simpa using hp
    subst this
    rw [up_s, h (a, k) (by simp)]
theorem jl_adv {q : List (Nat × Nat)} {a j : Nat} (h : ∀ p ∈ q ++ [(a, j)], p.2 ≤ (nd p.1).length) (hj : j < (nd a).length) : ∀ p ∈ q ++ [(a, j + 1)], p.2 ≤ (nd p.1).length := fun p hp => by
  rcases List.mem_append.1 hp with hp | hp
  · exact h p (by simp [hp])
  · have : p = (a, j + 1) := by simpa using hp
    subst this
    exact hj
theorem map_adv (q : List (Nat × Nat)) (a k m : Nat) : (q ++ [(a, m)]).map (·.1) = (q ++ [(a, k)]).map (·.1) := by simp
/-- One need more of the last of the path is gone through: what it leads to is closed. -/
theorem Wv.old {q : List (Nat × Nat)} {a k j : Nat} {e : Nat × Bool} (h : Wv w0 w qb nv mv lv sv n nd (q ++ [(a, j)]) opn met low nxt cnt st (k + 1)) (he : (nd a)[j]? = some e) (hs : 0 ≤ st e.1) {pv ov : Value} (hw : Wk w0 w' qb nv pv ov mv lv sv n cnt (q ++ [(a, j + 1)]) opn (zf met) (zf low) st nd) :
    Wv w0 w' qb nv mv lv sv n nd (q ++ [(a, j + 1)]) opn met low (up nxt a (nxt a + 1)) cnt st k := by
  have hj : nxt a = j := h.nx (a, j) (by simp)
  have hi := h.inv.advance (v := a) last_mem (fun e' he' => by rw [hj, he] at he'; cases he'; exact .inl hs)
  have ha := (h.inv.on a (h.inv.pin a last_mem))
  have hlt : j < (nd a).length := (List.getElem?_eq_some_iff.1 he).1
  refine ⟨⟨pv, ov, hw⟩, by rw [map_adv q a j]; exact hi, nx_adv h.inv.ps h.nx, h.cn, h.kk, by have := h.pl; simpa using this, jl_adv h.jl hlt, ?_⟩
  have := sumN_lt (n := n) (f := cost nd (q ++ [(a, j)]) met nxt) (g := cost nd (q ++ [(a, j + 1)]) met (up nxt a (nxt a + 1))) (fun v hv => ?_) (a := a) ha.1 ?_
  · have := h.ms; omega
  · unfold cost
    rw [map_adv q a j]
    by_cases e : v = a
    · subst e
      rw [up_s]; split
      · exact Nat.le_refl _
      · split <;> omega
    · rw [up_o _ _ e]; exact Nat.le_refl _
  · unfold cost
    rw [map_adv q a j, if_neg ha.2.1, if_neg ha.2.1, if_pos last_mem, if_pos last_mem, up_s]
    omega
theorem Wv.lowr {q : List (Nat × Nat)} {a k j : Nat} {e : Nat × Bool} (h : Wv w0 w qb nv mv lv sv n nd (q ++ [(a, j)]) opn met low nxt cnt st (k + 1)) (he : (nd a)[j]? = some e) (ho : e.1 ∈ opn) {pv ov : Value} (hw : Wk w0 w' qb nv pv ov mv lv sv n cnt (q ++ [(a, j + 1)]) opn (zf met) (upd (zf low) a (min (zf low a) (zf met e.1))) st nd) :
    Wv w0 w' qb nv mv lv sv n nd (q ++ [(a, j + 1)]) opn met (up low a (min (low a) (met e.1))) (up nxt a (nxt a + 1)) cnt st k := by
  have hj : nxt a = j := h.nx (a, j) (by simp)
  have hl := h.inv.lower (v := a) (on := e.1) last_mem ho (.one (List.mem_of_getElem? he))
  have hi := hl.advance (v := a) last_mem (fun e' he' => by rw [hj, he] at he'; cases he'; exact .inr ⟨ho, by rw [up_s]; omega⟩)
  have ha := (h.inv.on a (h.inv.pin a last_mem))
  have hlt : j < (nd a).length := (List.getElem?_eq_some_iff.1 he).1
  have ez : min (zf low a) (zf met e.1) = ((min (low a) (met e.1) : Nat) : Int) := by simp only [zf]; omega
  rw [ez, zf_up] at hw
  refine ⟨⟨pv, ov, hw⟩, by rw [map_adv q a j]; exact hi, nx_adv h.inv.ps h.nx, h.cn, h.kk, by have := h.pl; simpa using this, jl_adv h.jl hlt, ?_⟩
  have := sumN_lt (n := n) (f := cost nd (q ++ [(a, j)]) met nxt) (g := cost nd (q ++ [(a, j + 1)]) met (up nxt a (nxt a + 1))) (fun v hv => ?_) (a := a) ha.1 ?_
  · have := h.ms; omega
  · unfold cost
    rw [map_adv q a j]
    by_cases e : v = a
    · subst e
      rw [up_s]; split
      · exact Nat.le_refl _
      · split <;> omega
    · rw [up_o _ _ e]; exact Nat.le_refl _
  · unfold cost
    rw [map_adv q a j, if_neg ha.2.1, if_neg ha.2.1, if_pos last_mem, if_pos last_mem, up_s]
    omega
theorem count_enter {b c : Nat} (hb : b < n) (hm : met b = 0) (hc : cnt ≤ (List.range n).countP (fun v => decide (met v ≠ 0))) : cnt + 1 ≤ (List.range n).countP (fun v => decide (up met b (c + 1) v ≠ 0)) := by
  have := count_lt (p := fun v => decide (met v ≠ 0)) (q := fun v => decide (up met b (c + 1) v ≠ 0)) (x := b) (List.range n) (fun y _ hy => by
    by_cases e : y = b
    · subst e; rw [up_s]; simp
    · rw [up_o _ _ e]; exact hy) (by simpa using hb) (by simp [hm]) (by rw [up_s]; simp)
  omega
theorem Wv.new {q : List (Nat × Nat)} {a k j : Nat} {e : Nat × Bool} (h : Wv w0 w qb nv mv lv sv n nd (q ++ [(a, j)]) opn met low nxt cnt st (k + 1)) (he : (nd a)[j]? = some e) (hm : met e.1 = 0) {pv ov : Value} (hw : Wk w0 w' qb nv pv ov mv lv sv n (cnt + 1) (q ++ [(a, j + 1)] ++ [(e.1, 0)]) (opn ++ [e.1]) (upd (zf met) e.1 ((cnt + 1 : Nat) : Int)) (upd (zf low) e.1 ((cnt + 1 : Nat) : Int)) st nd) :
    Wv w0 w' qb nv mv lv sv n nd (q ++ [(a, j + 1)] ++ [(e.1, 0)]) (opn ++ [e.1]) (up met e.1 (cnt + 1)) (up low e.1 (cnt + 1)) (up (up nxt e.1 0) a (nxt a + 1)) (cnt + 1) st k := by
  have hj : nxt a = j := h.nx (a, j) (by simp)
  have ha := (h.inv.on a (h.inv.pin a last_mem))
  have hem : e ∈ nd a := List.mem_of_getElem? he
  have hb : e.1 < n := h.inv.bnd a ha.1 e hem
  have hne : a ≠ e.1 := fun e' => ha.2.1 (by rw [e']; exact hm)
  have hlt : j < (nd a).length := (List.getElem?_eq_some_iff.1 he).1
  have h1 := h.inv.enter (on := e.1) hb hm (fun p hp => by
    refine (h.inv.rp p hp a (h.inv.pin a last_mem) ?_).trans (.one hem)
    have hps := h.inv.ps
    rw [List.map_append] at hps hp
    rcases List.mem_append.1 hp with hp | hp
    · exact Nat.le_of_lt ((List.pairwise_append.1 hps).2.2 p hp a (by simp))
    · have : p = a := by simpa using hp
      rw [this]; exact Nat.le_refl _)
  have h2 := h1.advance (v := a) (List.mem_append_left _ last_mem) (fun e' he' => by
    rw [up_o _ _ hne, hj, he] at he'
    cases he'
    refine .inr ⟨by simp, ?_⟩
    rw [up_o _ _ hne, up_s]
    have := (h.inv.lw a (h.inv.pin a last_mem)).1
    have := ha.2.2.1
    omega)
  rw [up_o _ _ hne] at h2
  have em : (q ++ [(a, j + 1)] ++ [((e.1 : Nat), (0 : Nat))]).map (fun p : Nat × Nat => p.1) = (q ++ [(a, j)]).map (fun p : Nat × Nat => p.1) ++ [e.1] := by simp
  rw [zf_up, zf_up] at hw
  obtain ⟨K, k1, k2⟩ := h.kk
  refine ⟨⟨pv, ov, hw⟩, by rw [em]; exact h2, fun p hp => ?_, count_enter hb hm h.cn, ⟨K, by simp; omega, k2⟩, by have := h.pl; simp at this ⊢; omega, fun p hp => (List.mem_append.1 hp).elim (jl_adv h.jl hlt p) (fun hp => by rw [List.mem_singleton.1 hp]; exact Nat.zero_le _), ?_⟩
  · rcases List.mem_append.1 hp with hp | hp
    · have hpn : p.1 ≠ e.1 := fun e' => by
        have : p.1 ∈ (q ++ [(a, j)]).map (·.1) := by rw [← map_adv q a j (j + 1)]; exact List.mem_map_of_mem hp
        exact (h.inv.on p.1 (h.inv.pin _ this)).2.1 (by rw [e']; exact hm)
      have := nx_adv h.inv.ps h.nx p hp
      by_cases ea : p.1 = a
      · rw [ea, up_s] at this ⊢; exact this
      · rw [up_o _ _ ea] at this ⊢; rw [up_o _ _ hpn]; exact this
    · have : p = (e.1, 0) := by simpa using hp
      subst this
      rw [up_o _ _ (Ne.symm hne), up_s]
  · have := sumN_lt (n := n) (f := cost nd (q ++ [(a, j)]) met nxt) (g := cost nd (q ++ [(a, j + 1)] ++ [(e.1, 0)]) (up met e.1 (cnt + 1)) (up (up nxt e.1 0) a (nxt a + 1))) (fun v hv => ?_) (a := a) ha.1 ?_
    · have := h.ms; omega
    · unfold cost
      rw [em]
      by_cases e1 : v = e.1
      · subst e1
        rw [up_s, up_o _ _ (Ne.symm hne), up_s, if_neg (by omega), if_pos (by simp), if_pos hm]
        omega
      · rw [up_o _ _ e1]
        by_cases e2 : v = a
        · subst e2
          rw [up_s, if_neg ha.2.1, if_neg ha.2.1, if_pos last_mem, if_pos (List.mem_append_left _ last_mem)]
          omega
        · rw [up_o _ _ e2, up_o _ _ e1]
          by_cases e3 : v ∈ (q ++ [(a, j)]).map (·.1)
          · rw [if_pos e3, if_pos (List.mem_append_left _ e3)]; exact Nat.le_refl _
          · rw [if_neg e3, if_neg (fun h' => (List.mem_append.1 h').elim e3 (fun h'' => e1 (by simpa using h'')))]; exact Nat.le_refl _
    · unfold cost
      rw [em, up_s, up_o _ _ hne, if_neg ha.2.1, if_neg ha.2.1, if_pos last_mem, if_pos (List.mem_append_left _ last_mem)]
      omega
end Go.Proofs.Ytdmhajeaphnebaa.Gr
namespace Go.Proofs.Ytdmhajeaphnebaa.Gr
open Go.RowKit
open Vl (Fr)
open Tj (memB memB_iff)

theorem law9 : Maps.Keyed Try.prog 9 := Maps.string_keyed Try.underlying9
theorem zero3 (w : World) : (zeroValue 3).run Try.prog w = .ok (.int .i64 0) w := by kernel_rfl
def heldR : Value → Option (DataW Value × List MemPlace) := fun v => some (.held v, [])
def kb (x : ByteArray) : Lit := .string x.data.toList
def Sz (x : ByteArray) : Prop := x.size ≤ 1000
theorem kb_key {x : ByteArray} (h : Sz x) : keyOf Try.prog 9 (.string x) = some (kb x) := WideMaps.keyOf_string_mk Try.underlying9 (by unfold Sz at h; unfold maxLen; omega)
theorem kb_inj {x y : ByteArray} (h : kb x = kb y) : x = y := by
  unfold kb at h
  have h1 : x.data.toList = y.data.toList := by injection h
  cases x; cases y
  congr 1
  exact Array.toList_inj.1 h1
theorem kb_ne {x y : ByteArray} (h : x ≠ y) : kb x ≠ kb y := fun e => h (kb_inj e)
theorem kb_lit (x : ByteArray) : WideAt.IsKeyLit (kb x) := trivial
/-- The map in block b: the names of L, each with its number. -/
structure Mp (w : World) (b : Nat) (L : List ByteArray) (f : ByteArray → Int) : Prop where
  ex : ∃ n D, n ≤ L.length ∧ w.ownsMap Try.prog 9 heldR b n D ∧ Maps.size D = L.length ∧ (∀ x, Maps.has D (kb x) = memB L x) ∧ ∀ x ∈ L, ∀ z, D.atKey (kb x) z = .held (.int .i64 (f x))
  sm : ∀ x ∈ L, Sz x
  nd : L.Nodup
variable {w w' : World} {b : Nat} {L : List ByteArray} {f : ByteArray → Int}
theorem Mp.look (h : Mp w b L f) {x : ByteArray} (hx : Sz x) : ∃ v, (Instr.lookup 25 (.map (some b)) (.string x) true).run Try.prog w = .ok (.tuple #[v, .bool (memB L x)]) w ∧ (x ∈ L → v = .int .i64 (f x)) := by
  obtain ⟨n, D, hn, hm, hs, hh, ha⟩ := h.ex
  obtain ⟨v, ps, hrun, hv⟩ := hm.look_ok law9 Try.underlying25 (zero3 w) (zd := .held (.int .i64 0)) (zp := []) rfl (kb_key hx)
  refine ⟨v, by rw [hrun, hh x], fun hx => ?_⟩
  rw [ha x hx] at hv
  simp [heldR] at hv
  exact hv.1
theorem Mp.get (h : Mp w b L f) {x : ByteArray} (hx : x ∈ L) : (Instr.lookup 25 (.map (some b)) (.string x) false).run Try.prog w = .ok (.int .i64 (f x)) w := by
  obtain ⟨n, D, hn, hm, hs, hh, ha⟩ := h.ex
  obtain ⟨v, ps, hrun, hv⟩ := hm.lookup law9 Try.underlying25 (zero3 w) (zd := .held (.int .i64 0)) (zp := []) rfl (kb_key (h.sm x hx))
  rw [ha x hx] at hv
  simp [heldR] at hv
  rw [hrun, hv.1]
theorem Mp.len (h : Mp w b L f) (ty : Nat) : (Builtin.len_ #[25] ty #[.map (some b)]).run Try.prog w = .ok (.int .i64 (L.length : Int)) w := by
  obtain ⟨n, D, hn, hm, hs, hh, ha⟩ := h.ex
  rw [hm.len Try.underlying25, hs]
def updN (f : ByteArray → Int) (x : ByteArray) (z : Int) : ByteArray → Int := fun y => if y = x then z else f y
theorem updN_s (f : ByteArray → Int) (x : ByteArray) (z : Int) : updN f x z x = z := by simp [updN]
theorem updN_o (f : ByteArray → Int) {x y : ByteArray} (z : Int) (h : y ≠ x) : updN f x z y = f y := by simp [updN, h]
theorem Mp.put (h : Mp w b L f) {x : ByteArray} (hx : Sz x) (hn : x ∉ L) (hl : L.length ≤ 1000) (z : Int) : ∃ w', (Instr.mapUpdate 25 (.map (some b)) (.string x) (.int .i64 z)).run Try.prog w = .ok () w' ∧ Mp w' b (L ++ [x]) (updN f x z) ∧ w.mapTurned w' b := by
  obtain ⟨n, D, hn', hm, hs, hh, ha⟩ := h.ex
  obtain ⟨w', hrun, hm', ht⟩ := hm.store law9 Try.underlying25 (by unfold maxLen; omega) (kb_key hx) (val := .int .i64 z) (d := .held (.int .i64 z)) (ps := []) rfl
  have hne : ∀ {y}, y ∈ L → y ≠ x := fun hy e => hn (e ▸ hy)
  have hno : Maps.has D (kb x) = false := by
    rw [hh x]
    cases hc : memB L x with
    | false => rfl
    | true => exact absurd (memB_iff.1 hc) hn
  refine ⟨w', hrun, ⟨⟨n + 1, _, by simp; omega, hm', ?_, fun y => ?_, fun y hy zz => ?_⟩, fun y hy => ?_, ?_⟩, ht⟩
  · rw [Maps.size_put (hm.tidy law9), hno]
    simp [hs]
  · by_cases e : y = x
    · subst e
      rw [Maps.has_put_same hm.isMap (kb_lit _)]
      exact (memB_iff.2 (by simp)).symm
    · rw [Maps.has_put_other (kb_ne e), hh y]
      apply Bool.eq_iff_iff.2
      rw [memB_iff, memB_iff]
      simp [e]
  · by_cases e : y = x
    · subst e
      rw [Maps.atKey_put_same hm.isMap (kb_lit _), updN_s]
    · rw [Maps.atKey_put_other (kb_ne e), updN_o _ _ e]
      exact ha y (by rcases List.mem_append.1 hy with h | h; exact h; exact absurd (by simpa using h) e) zz
  · rcases List.mem_append.1 hy with h1 | h1
    · exact h.sm y h1
    · have : y = x := by simpa using h1
      rw [this]; exact hx
  · refine List.nodup_append.2 ⟨h.nd, by simp, fun a ha' c hc => ?_⟩
    have : c = x := by simpa using hc
    rw [this]
    exact hne ha'
theorem Mp.new (w : World) : Mp (w.alloc (.map #[] 0)) w.heap.size [] f :=
  ⟨⟨0, .map [], Nat.le_refl _, World.ownsMap_made w Try.prog 9 heldR, rfl, fun _ => rfl, fun _ hx => (List.not_mem_nil hx).elim⟩, fun _ hx => (List.not_mem_nil hx).elim, List.nodup_nil⟩
theorem Mp.fr {F : Nat → Prop} (h : Mp w b L f) (hf : Fr F w w') (hb : ¬ F b) : Mp w' b L f := by
  obtain ⟨n, D, hn, ⟨es, clock, hm, r⟩, k⟩ := h.ex
  exact ⟨⟨n, D, hn, ⟨es, clock, (hf.block b (Array.getElem?_eq_some_iff.1 hm).1 hb).trans hm, r⟩, k⟩, h.sm, h.nd⟩
theorem Mp.below (h : Mp w b L f) (hb : Below w.heap.size w w') : Mp w' b L f := h.fr (Fr.of_below (F := fun _ => False) hb) id
theorem Mp.blk (h : Mp w b L f) : ∃ es c, w.heap[b]? = some (.map es c) := by
  obtain ⟨n, D, hn, ⟨es, clock, hm, r⟩, k⟩ := h.ex
  exact ⟨es, clock, hm⟩
theorem Mp.lt (h : Mp w b L f) : b < w.heap.size := by
  obtain ⟨es, c, hm⟩ := h.blk
  exact (Array.getElem?_eq_some_iff.1 hm).1
theorem Mp.congr (h : Mp w b L f) {g : ByteArray → Int} (hg : ∀ x ∈ L, f x = g x) : Mp w b L g := by
  obtain ⟨n, D, hn, hm, hs, hh, ha⟩ := h.ex
  exact ⟨⟨n, D, hn, hm, hs, hh, fun x hx z => by rw [← hg x hx]; exact ha x hx z⟩, h.sm, h.nd⟩
theorem fr_turned (h : w.mapTurned w' b) : Fr (fun k => k = b) w w' := by
  have hg := h.grown
  exact Vl.Fr.of_grown (F := fun k => k = b) hg (fun k hk => by simpa using hk.symm)
theorem own_nmap {e s c : Nat} {v : Value} {xs : List Value} (ho : w.ownsRow 0 e s v c xs) (h : Mp w b L f) : v.ownBlock ≠ some b := fun hv => by
  obtain ⟨cur, hc⟩ := own_blk ho hv
  obtain ⟨es, c', hm⟩ := h.blk
  rw [hc] at hm
  cases hm
end Go.Proofs.Ytdmhajeaphnebaa.Gr
namespace Go.Proofs.Ytdmhajeaphnebaa.Gr
open Go.RowKit
open Vl (Fr)
open Tj (ng ng_nn)
variable {w0 w w' : World} {qb : Nat} {nv pv ov mv lv sv : Value} {n cnt : Nat} {path : List (Nat × Nat)} {opn : List Nat} {met low st : Nat → Int} {nd : Nat → List (Nat × Bool)}

set_option maxHeartbeats 4000000 in
theorem leave_set {pre post : List Nat} {q : List (Nat × Nat)} {back kb id k : Nat} (h : Wk w0 w qb nv pv ov mv lv sv n cnt (q ++ [(back, kb)] ++ [(id, k)]) (pre ++ id :: post) met low st nd) (hlo : low id = met id) (hpost : id ∉ post) (hCn : ∀ v ∈ id :: post, v < n) (hCl : (pre ++ id :: post).length ≤ 1000)
    (hnd : ∀ v, v < n → (nd v).length ≤ 1000000 ∧ ∀ e ∈ nd v, e.1 < n) (hst : ∀ v, v < n → -1 ≤ st v ∧ st v ≤ 1000) (hba : back < n) (hne : id ≠ back) (hn : n ≤ 1000) (hq : q.length ≤ 1000) :
    Calls Try.prog 42 #[.pointer (some ⟨qb, 0, none⟩)] w fun e w' => ∃ b, e = .returned (.bool b) ∧ LvR w0 w' qb nv mv lv sv n cnt (q ++ [(back, kb)]) pre (id :: post) met (upd low back (min (low back) (low id))) st nd b := by
  have hid := hCn id (by simp)
  obtain ⟨gp, cp, rfl, hcp, hcm, hpc, -⟩ := own_open h.p (by simp)
  obtain ⟨gm, cm, rfl, _, _, hmc, -⟩ := own_open h.m (by omega)
  obtain ⟨gl, cl, rfl, _, _, hlc, hlf⟩ := own_open h.l (by omega)
  obtain ⟨_, c1, _, _, _, _, _⟩ := h.c
  have f1 := h.fz 1
  have x0 : w.cell? ⟨gp, (q.length + 1) * 2, none⟩ = some (.int .i64 (id : Int)) := (hpc ((q.length + 1) * 2) (by simp)).trans (by
    have := cellsP_last (q ++ [(back, kb)]) id k
    simpa [num] using this)
  have H1 := hide h.cutP.drew.drew
  have el1 : (q ++ [(back, kb)] ++ [(id, k)]).length = q.length + 2 := by simp
  have el2 : (q ++ [(back, kb)]).length = q.length + 1 := by simp
  rw [el1] at c1 hcp
  rw [el2] at H1
  have e1 := H1.out.c.2.1
  have e4 := H1.out.c.2.2.2.2.1
  have e5 := H1.out.c.2.2.2.2.2.1
  obtain ⟨_, _, ee, -, -, hpc1, -⟩ := own_open H1.out.p (by simp)
  simp only [el2, Value.slice.injEq, Option.some.injEq, Addr.mk.injEq, and_true, true_and] at ee
  obtain ⟨rfl, rfl⟩ := ee
  have y0 := (hpc1 (q.length * 2) (by simp)).trans (cellsP_last q back kb)
  unfold num at y0
  obtain ⟨_, _, ee, -, -, hmc, -⟩ := own_open H1.out.m (by omega)
  simp only [Value.slice.injEq, Option.some.injEq, Addr.mk.injEq, and_true, true_and] at ee
  obtain ⟨rfl, rfl⟩ := ee
  obtain ⟨_, _, ee, -, -, hlc, hlf⟩ := own_open H1.out.l (by omega)
  simp only [Value.slice.injEq, Option.some.injEq, Addr.mk.injEq, and_true, true_and] at ee
  obtain ⟨rfl, rfl⟩ := ee
  have xm := (hmc id (by omega)).trans (rowI_get met hid)
  have xl := (hlc id (by omega)).trans (rowI_get low hid)
  have xb := (hlc back (by omega)).trans (rowI_get low hba)
  have fb := hlf back
  have H2 := hide (H1.out.setL back (min (low back) (low id))).drew.drew
  have e42 := H2.out.c.2.2.2.2.1
  have e52 := H2.out.c.2.2.2.2.2.1
  obtain ⟨_, _, ee, -, -, hmc2, -⟩ := own_open H2.out.m (by omega)
  simp only [Value.slice.injEq, Option.some.injEq, Addr.mk.injEq, and_true, true_and] at ee
  obtain ⟨rfl, rfl⟩ := ee
  obtain ⟨_, _, ee, -, -, hlc2, -⟩ := own_open H2.out.l (by omega)
  simp only [Value.slice.injEq, Option.some.injEq, Addr.mk.injEq, and_true, true_and] at ee
  obtain ⟨rfl, rfl⟩ := ee
  have xm2 := (hmc2 id (by omega)).trans (rowI_get met hid)
  have xl2 := (hlc2 id (by omega)).trans (rowI_get _ hid)
  rw [upd_o _ _ hne] at xl2
  have HSE : Hid (Calls Try.prog 49 #[.pointer (some ⟨qb, 0, none⟩), .int .i64 (id : Int)] _ fun e w' => ∃ b, e = .returned (.bool b) ∧ Hid (LvR w0 w' qb nv (.slice (some ⟨gm, 0, none⟩) n cm) (.slice (some ⟨gl, 0, none⟩) n cl) sv n cnt (q ++ [(back, kb)]) pre (id :: post) met (upd low back (min (low back) (low id))) st nd b)) := (settle_any H2.out.drew hpost hCn hCl hn hnd hst).mono (fun e w' he => by
    rcases he with ⟨rfl, s, hs, ov', hw⟩ | ⟨rfl, hb, hbad⟩
    · exact ⟨true, rfl, .inl ⟨rfl, s, hs, _, _, hw⟩⟩
    · exact ⟨false, rfl, .inr ⟨rfl, hb, hbad⟩⟩)
  clear hnd hst hCn
  have hidI : (id : Int) < (n : Int) := by omega
  have hbaI : (back : Int) < (n : Int) := by omega
  have hnI : (n : Int) ≤ 1000 := by omega
  generalize met id = mi at xm xm2 hlo
  generalize low id = li at xl xl2 hlo H2 e42 e52 xm2 HSE ⊢
  generalize low back = lb at xb H2 e42 e52 xm2 xl2 HSE ⊢
  have HLO := hide hlo
  clear hlo
  clear hpc hpc1 hmc hlc hmc2 hlc2 h hlf el1 el2
  generalize hm : q.length = m at *
  obtain ⟨w1, hw1⟩ : ∃ w1, w1 = (w.setCell ⟨qb, 1, none⟩ (.slice (some ⟨gp, 0, none⟩) (m + 1) cp)).drew.drew := ⟨_, rfl⟩
  rw [← hw1] at e1 e4 e5 xm xl xb fb y0 H1 H2 e42 e52 xm2 xl2 HSE
  have HW1 := hide hw1
  obtain ⟨w2, hw2⟩ : ∃ w2, w2 = (w1.setCell ⟨gl, back, none⟩ (.int .i64 (min lb li))).drew.drew := ⟨_, rfl⟩
  rw [← hw2] at e42 e52 xm2 xl2 H2 HSE
  have HW2 := hide hw2
  clear hw1 hw2 hm
  go_enter Try.func42, Try.ntmps42
  go_upto_region 1 with fail
  go_region
  go_upto_region 2 with fail
  refine wp_region_noPanic ?_
  go_region
  refine NoPanic.normal ?_
  rw [← HW1.out]
  clear HW1 c1 f1 x0
  go_upto_if 37 with fail
  go_cut [4] from 37 to 71 (fun _ wc => Hid (wc = w2))
  case first =>
    go_upto_region 4 with fail
    go_region
    go_upto_region 5 with fail
    refine wp_region_noPanic ?_
    go_region
    refine NoPanic.normal ?_
    rw [← HW2.out]
    clear HW2 e1 e4 e5 xm xl xb fb y0
    go_wp2_with fail
    go_meet
    exact rfl
  case rest =>
    have hcw : wc = w2 := hcut.out
    rw [hcw]
    have hlo := HLO.out
    subst hlo
    clear hcut hcw HW2 e1 e4 e5 xm xl xb fb y0 H1 H2 HLO hcp hcm hq hlf hlc hmc hbaI
    have hmm : decide (li < li) = false := by simp
    go_upto_region 6 with fail
    go_region_with (go_at_call 49; refine Calls.mono HSE.out ?_; rintro e w5 ⟨b, rfl, HX⟩)
    all_goals go_wp2
    all_goals go_ret
    all_goals exact ⟨b, rfl, HX.out⟩
end Go.Proofs.Ytdmhajeaphnebaa.Gr
namespace Go.Proofs.Ytdmhajeaphnebaa.Gr
open Go.RowKit
open Vl (Fr)
open Tj (ng ng_nn Inv Rch Sol up up_s up_o count_lt)
variable {w0 w w' : World} {qb : Nat} {nv pv ov mv lv sv : Value} {n cnt : Nat} {path : List (Nat × Nat)} {opn : List Nat} {met low nxt : Nat → Nat} {st : Nat → Int} {nd : Nat → List (Nat × Bool)}

/-- look, whatever it meets. -/
theorem look_wv {q : List (Nat × Nat)} {a k j : Nat} {e : Nat × Bool} (h : Wv w0 w qb nv mv lv sv n nd (q ++ [(a, j)]) opn met low nxt cnt st (k + 1)) (he : (nd a)[j]? = some e) {pv ov : Value} (hw : Wk w0 w' qb nv pv ov mv lv sv n cnt (q ++ [(a, j + 1)]) opn (zf met) (zf low) st nd) (hn : n ≤ 999) :
    Calls Try.prog 41 #[.pointer (some ⟨qb, 0, none⟩), .int .i64 (a : Int), .int .i64 (e.1 : Int)] w' fun x w2 => x = .returned (.tuple #[]) ∧ ∃ path' opn' met' low' nxt' cnt', Wv w0 w2 qb nv mv lv sv n nd path' opn' met' low' nxt' cnt' st k ∧ ∀ v, met v ≠ 0 → met' v ≠ 0 := by
  have ha := (h.inv.on a (h.inv.pin a last_mem))
  have hb : e.1 < n := h.inv.bnd a ha.1 e (List.mem_of_getElem? he)
  have hc := h.cnt_le
  have ho := h.opl
  have hp := h.pl
  by_cases hm : met e.1 = 0
  · refine (look_new hw (a := a) hb (by omega) (by omega) (by simp at hp ⊢; omega) (by omega) (by simp [zf, hm])).mono ?_
    rintro x w2 ⟨rfl, pv', ov', hw2⟩
    exact ⟨rfl, _, _, _, _, _, _, h.new he hm hw2, fun v hv => by
      by_cases e1 : v = e.1
      · subst e1; rw [up_s]; omega
      · rw [up_o _ _ e1]; exact hv⟩
  · by_cases hs : st e.1 = -1
    · refine (look_low hw (a := a) ha.1 hb (by omega) (by simp [zf, hm]) hs).mono ?_
      rintro x w2 ⟨rfl, hw2⟩
      have hopn : e.1 ∈ opn := Decidable.byContradiction fun hno => by have := h.inv.cl e.1 hb hm hno; omega
      exact ⟨rfl, _, _, _, _, _, _, h.lowr he hopn hw2, fun v hv => hv⟩
    · refine (look_old hw (a := a) hb (by omega) (by simp [zf, hm]) hs).mono ?_
      rintro x w2 ⟨rfl, hw2⟩
      have h0 : 0 ≤ st e.1 := by
        by_cases ho : e.1 ∈ opn
        · exact absurd (h.inv.on e.1 ho).2.2.2 hs
        · exact h.inv.cl e.1 hb hm ho
      exact ⟨rfl, _, _, _, _, _, _, h.old he h0 hw2, fun v hv => hv⟩
theorem cost_pop {q : List (Nat × Nat)} {id j : Nat} (hid : id < n) (hm : met id ≠ 0) (hnq : id ∉ q.map (·.1)) : sumN n (cost nd q met nxt) < sumN n (cost nd (q ++ [(id, j)]) met nxt) := by
  refine sumN_lt (fun v hv => ?_) hid ?_
  · unfold cost
    by_cases e : met v = 0
    · rw [if_pos e, if_pos e]; exact Nat.le_refl _
    · rw [if_neg e, if_neg e]
      by_cases e1 : v ∈ q.map (·.1)
      · rw [if_pos e1, if_pos (by rw [List.map_append]; exact List.mem_append_left _ e1)]; exact Nat.le_refl _
      · rw [if_neg e1]; exact Nat.zero_le _
  · unfold cost
    rw [if_neg hm, if_neg hm, if_neg hnq, if_pos last_mem]
    omega
theorem settle_inv {p : List Nat} {id : Nat} {pre post : List Nat} {s : Int} (h : Inv nd n (p ++ [id]) (pre ++ id :: post) nxt met low cnt st) (hf : nxt id = (nd id).length) (hl : low id = met id) (hs : Ls st ((id :: post).flatMap nd) s) : Inv nd n p pre nxt met low cnt (fun v => if v ∈ id :: post then s else st v) := by
  have hos := List.pairwise_append.1 h.os
  have hmem : ∀ {v e}, v ∈ id :: post → e ∈ nd v → e ∈ (id :: post).flatMap nd := fun hv he => List.mem_flatMap.2 ⟨_, hv, he⟩
  refine h.settle hf hl rfl (fun v hv => ?_) (fun v hv => hos.2.2 v hv id (by simp)) hs.nn (fun v hv e he hst => (hs.ub e (hmem hv he)).1 hst) (fun v hv e he _ => (hs.ub e (hmem hv he)).2) ?_
  · rcases List.mem_cons.1 hv with e | hv
    · rw [e]; exact Nat.le_refl _
    · exact Nat.le_of_lt ((List.pairwise_cons.1 hos.2.1).1 v hv)
  · rcases hs.lb with h0 | ⟨e, he, h1, h2⟩
    · exact .inl h0
    · obtain ⟨v, hv, he'⟩ := List.mem_flatMap.1 he
      exact .inr ⟨v, hv, e, he', h1, h2⟩
theorem settle_kk {id : Nat} {pre post : List Nat} {s : Int} (hk : ∃ K, K + (pre ++ id :: post).length ≤ cnt ∧ ∀ v, v < n → st v ≤ (K : Int)) (hs : Ls st ((id :: post).flatMap nd) s) (hC : ∀ v ∈ id :: post, v < n) (hb : ∀ v, v < n → ∀ e ∈ nd v, e.1 < n) : ∃ K, K + pre.length ≤ cnt ∧ ∀ v, v < n → (if v ∈ id :: post then s else st v) ≤ (K : Int) := by
  obtain ⟨K, h1, h2⟩ := hk
  have hsK : s ≤ (K : Int) + 1 := by
    rcases hs.lb with h0 | ⟨e, he, h3, h4⟩
    · omega
    · obtain ⟨v, hv, he'⟩ := List.mem_flatMap.1 he
      have := h2 e.1 (hb v (hC v hv) e he')
      have h5 : ng e.2 ≤ 1 := by unfold ng; split <;> omega
      omega
  refine ⟨K + 1, by simp at h1; omega, fun v hv => ?_⟩
  have := h2 v hv
  split <;> omega
/-- leave. -/
theorem leave_wv {q : List (Nat × Nat)} {id k j : Nat} (h : Wv w0 w qb nv mv lv sv n nd (q ++ [(id, j)]) opn met low nxt cnt st (k + 1)) (hj : (nd id).length ≤ j) (hn : n ≤ 999) (hnl : ∀ v, v < n → (nd v).length ≤ 1000000) :
    Calls Try.prog 42 #[.pointer (some ⟨qb, 0, none⟩)] w fun x w2 => (x = .returned (.bool true) ∧ ∃ opn' low' st', Wv w0 w2 qb nv mv lv sv n nd q opn' met low' nxt cnt st' k) ∨ (x = .returned (.bool false) ∧ Below w0.heap.size w0 w2 ∧ ∀ t, ¬ Sol nd n t) := by
  have hjl := h.jl (id, j) (by simp)
  have hnx : nxt id = (nd id).length := by have := h.nx (id, j) (by simp); simp only at this hjl; omega
  have hid := h.inv.pin id last_mem
  have hon := h.inv.on id hid
  have hst := h.stb (by omega)
  have hc := h.cnt_le
  have hoc := h.opl
  have hpl := h.pl
  have hinv := h.inv
  rw [List.map_append] at hinv
  have hnq : id ∉ q.map (·.1) := fun hm => by
    have := (List.pairwise_append.1 hinv.ps).2.2 id hm id (by simp)
    omega
  have hms : sumN n (cost nd q met nxt) ≤ k := by
    have h1 := cost_pop (n := n) (nd := nd) (nxt := nxt) (j := j) hon.1 hon.2.1 hnq
    have h2 := h.ms
    omega
  have hnx' : ∀ p ∈ q, nxt p.1 = p.2 := fun p hp => h.nx p (by simp [hp])
  have hjl' : ∀ p ∈ q, p.2 ≤ (nd p.1).length := fun p hp => h.jl p (by simp [hp])
  have hpl' : q.length ≤ cnt := by simp at hpl; omega
  obtain ⟨pv, ov, hw⟩ := h.wk
  obtain ⟨pre, post, rfl⟩ := List.append_of_mem hid
  have hos := List.pairwise_append.1 h.inv.os
  have hpost : id ∉ post := fun hm => by have := (List.pairwise_cons.1 hos.2.1).1 id hm; omega
  have hCn : ∀ v ∈ id :: post, v < n := fun v hv => (h.inv.on v (List.mem_append_right _ hv)).1
  have hCm : ∀ v ∈ id :: post, met id ≤ met v := fun v hv => by
    rcases List.mem_cons.1 hv with e | hv
    · rw [e]; exact Nat.le_refl _
    · exact Nat.le_of_lt ((List.pairwise_cons.1 hos.2.1).1 v hv)
  have hnd : ∀ v, v < n → (nd v).length ≤ 1000000 ∧ ∀ e ∈ nd v, e.1 < n := fun v hv => ⟨hnl v hv, h.inv.bnd v hv⟩
  rcases nil_or_snoc q with rfl | ⟨q', ⟨back, kb⟩, rfl⟩
  · have hr : low id = met id := Inv.root (by simpa using hinv)
    refine (leave_root hw (by simp [zf, hr]) hpost hCn (by omega) (by omega) hnd hst).mono ?_
    rintro x w2 ⟨b, rfl, ⟨rfl, s, hs, pv', ov', hw2⟩ | ⟨rfl, hb, v, hv, a, ha, hsa⟩⟩
    · exact .inl ⟨rfl, _, _, _, ⟨⟨pv', ov', hw2⟩, settle_inv hinv hnx hr hs, hnx', h.cn, settle_kk h.kk hs hCn h.inv.bnd, hpl', hjl', hms⟩⟩
    · exact .inr ⟨rfl, hb, hinv.bad hnx hr (List.mem_append_right _ hv) (hCm v hv) ha rfl hsa⟩
  · have hbp : back ∈ (q' ++ [(back, kb)]).map (·.1) := last_mem
    have hbo := h.inv.pin back (by rw [List.map_append]; exact List.mem_append_left _ hbp)
    have hbm : ∀ p ∈ (q' ++ [(back, kb)]).map (·.1), met p ≤ met back := fun p hp => by
      have hps := (List.pairwise_append.1 hinv.ps).1
      rw [List.map_append] at hps hp
      rcases List.mem_append.1 hp with hp | hp
      · exact Nat.le_of_lt ((List.pairwise_append.1 hps).2.2 p hp back (by simp))
      · have : p = back := by simpa using hp
        rw [this]; exact Nat.le_refl _
    have hlt : met back < met id := (List.pairwise_append.1 hinv.ps).2.2 back hbp id (by simp)
    have hne : id ≠ back := fun e => by rw [e] at hlt; omega
    obtain ⟨hlm, u, hu, hmu, hru⟩ := h.inv.lw id hid
    have hrb : Rch nd back id := h.inv.rp back (by rw [List.map_append]; exact List.mem_append_left _ hbp) id hid (Nat.le_of_lt hlt)
    have hlow := hinv.lower (v := back) (on := u) (List.mem_append_left _ hbp) hu (hrb.trans hru)
    rw [hmu] at hlow
    have ez : min (zf low back) (zf low id) = ((min (low back) (low id) : Nat) : Int) := by simp only [zf]; omega
    have elow : up low back (min (low back) (low id)) id = low id := up_o _ _ hne
    by_cases hl : low id < met id
    · refine (leave_true hw (by simp only [zf]; omega) hon.1 (h.inv.on back hbo).1 hne (by omega) (by simp at hpl; omega)).mono ?_
      rintro x w2 ⟨rfl, pv', hw2⟩
      rw [ez, zf_up] at hw2
      exact .inl ⟨rfl, _, _, _, ⟨⟨pv', ov, hw2⟩, hlow.pop hnx (by rw [elow]; exact hl) hbp hbm (by rw [elow, up_s]; omega), hnx', h.cn, h.kk, hpl', hjl', hms⟩⟩
    · have hr : low id = met id := by omega
      refine (leave_set hw (by simp [zf, hr]) hpost hCn (by omega) hnd hst (h.inv.on back hbo).1 hne (by omega) (by simp at hpl; omega)).mono ?_
      rintro x w2 ⟨b, rfl, ⟨rfl, s, hs, pv', ov', hw2⟩ | ⟨rfl, hb, v, hv, a, ha, hsa⟩⟩
      · rw [ez, zf_up] at hw2
        exact .inl ⟨rfl, _, _, _, ⟨⟨pv', ov', hw2⟩, settle_inv hlow hnx (by rw [elow]; exact hr) hs, hnx', h.cn, settle_kk h.kk hs hCn h.inv.bnd, hpl', hjl', hms⟩⟩
      · exact .inr ⟨rfl, hb, hinv.bad hnx hr (List.mem_append_right _ hv) (hCm v hv) ha rfl hsa⟩
end Go.Proofs.Ytdmhajeaphnebaa.Gr

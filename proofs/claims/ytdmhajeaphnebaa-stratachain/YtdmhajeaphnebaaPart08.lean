/- What is read of words with the mark of a fault behind them. The reference's parser in memory; the walks of bad, sign and eat. The walk of the reference's term. The walk of the reference's atom. The walk of the reference's atom, where it begins with a name. -/
import Derived.Test.YtdmhajeaphnebaaPart07
import Derived.BigQuiet
namespace Go.Proofs.Ytdmhajeaphnebaa.Sy
open Lx (Wd tx scanL scanAt frontAt)
open Vl (Tm)

def mkW : Wd := (0, [], 0)
def mapM {α : Type} : Re α → Re α
  | .error e => .error e
  | .ok (x, r) => .ok (x, r ++ [mkW])
theorem next_m (ws : List Wd) : nextW (ws ++ [mkW]) = nextW ws := by cases ws <;> rfl
theorem take_m (s : List UInt8) (ws : List Wd) : takeB s (ws ++ [mkW]) = takeB s ws := by unfold takeB; rw [next_m]
theorem tail_m {ws : List Wd} (h : ws ≠ []) : (ws ++ [mkW]).tail = ws.tail ++ [mkW] := by
  cases ws with
  | nil => exact absurd rfl h
  | cons x t => rfl
theorem next_tail_m (ws : List Wd) : nextW (ws ++ [mkW]).tail = nextW ws.tail := by
  cases ws with
  | nil => rfl
  | cons x t => exact next_m t
theorem ne_take {s : List UInt8} {ws : List Wd} (hs : s ≠ []) (h : takeB s ws = true) : ws ≠ [] := by
  rintro rfl
  have : ([] : List UInt8) = s := by simpa [takeB, nextW] using h
  exact hs this.symm
theorem ne_next {k : Nat} {ws : List Wd} (hk : k ≠ 0) (h : (nextW ws).1 = k) : ws ≠ [] := by
  rintro rfl
  exact hk h.symm
theorem one_m (f : Wd → Option Tm) (hf : f mkW = none) (ws : List Wd) : oneL f (ws ++ [mkW]) = mapM (oneL f ws) := by
  unfold oneL
  rw [next_m]
  cases h : f (nextW ws) with
  | none => rfl
  | some t =>
    have hne : ws ≠ [] := by
      rintro rfl
      have : f mkW = some t := h
      rw [hf] at this
      cases this
    simp only [tail_m hne, mapM]
theorem const_m : constW mkW = none := by simp [constW, mkW]
theorem term_m : termW mkW = none := by simp [termW, constW, mkW]
theorem list_m {α : Type} (item : List Wd → Re α) (hi : ∀ ws, item (ws ++ [mkW]) = mapM (item ws)) (n : Nat) : ∀ ws, listL item n (ws ++ [mkW]) = mapM (listL item n ws) := by
  induction n with
  | zero =>
    intro ws
    have h := hi ws
    cases hw : item ws with
    | error e => rw [hw] at h; rw [listL_err hw, listL_err h]; rfl
    | ok p => obtain ⟨x, t⟩ := p; rw [hw] at h; rw [listL_zero hw, listL_zero h]; rfl
  | succ n ih =>
    intro ws
    have h := hi ws
    cases hw : item ws with
    | error e => rw [hw] at h; rw [listL_err hw, listL_err h]; rfl
    | ok p =>
      obtain ⟨x, t⟩ := p
      rw [hw] at h
      cases ht : takeB [44] t with
      | false =>
        rw [listL_last hw ht, listL_last h (by rw [take_m]; exact ht)]
        rfl
      | true =>
        have e : takeR [44] (t ++ [mkW]) = takeR [44] t ++ [mkW] := by rw [takeR, takeR, if_pos ht, if_pos (by rw [take_m]; exact ht), tail_m (ne_take (by decide) ht)]
        rw [listL_more hw ht, listL_more h (by rw [take_m]; exact ht), e, ih]
        cases listL item n (takeR [44] t) <;> rfl
theorem atom_m (f : Wd → Option Tm) (hf : f mkW = none) (ws : List Wd) : atomL f (ws ++ [mkW]) = mapM (atomL f ws) := by
  unfold atomL
  rw [next_m]
  by_cases h1 : (nextW ws).1 = 1
  · rw [if_pos h1, if_pos h1, tail_m (ne_next (by decide) h1), take_m]
    cases ht : takeB [40] ws.tail with
    | false => rfl
    | true =>
      simp only [if_true]
      rw [tail_m (ne_take (by decide) ht), list_m (oneL f) (one_m f hf)]
      cases listL (oneL f) 4 ws.tail.tail with
      | error e => rfl
      | ok p =>
        obtain ⟨l, r⟩ := p
        simp only [mapM]
        rw [take_m]
        cases hr : takeB [41] r with
        | false => rfl
        | true =>
          simp only [if_true]
          rw [tail_m (ne_take (by decide) hr)]
  · rw [if_neg h1, if_neg h1]
    rfl
theorem cmp_m (ws : List Wd) : cmpL (ws ++ [mkW]) = mapM (cmpL ws) := by
  unfold cmpL termL
  rw [one_m termW term_m]
  cases oneL termW ws with
  | error e => rfl
  | ok p =>
    obtain ⟨a, t⟩ := p
    simp only [mapM]
    rw [next_m]
    by_cases hk : kindOf (nextW t).2.1 = 0
    · rw [if_pos hk, if_pos hk]
    · rw [if_neg hk, if_neg hk]
      have hne : t ≠ [] := by
        rintro rfl
        exact hk rfl
      rw [tail_m hne, one_m termW term_m]
      cases oneL termW t.tail with
      | error e => rfl
      | ok q => rfl
theorem lit_m (ws : List Wd) : litL (ws ++ [mkW]) = mapM (litL ws) := by
  unfold litL
  rw [take_m, next_m, next_tail_m, atom_m termW term_m, cmp_m]
  cases ht : takeB [33] ws with
  | true =>
    simp only [if_true]
    rw [tail_m (ne_take (by decide) ht), atom_m termW term_m]
    cases atomL termW ws.tail <;> rfl
  | false =>
    simp only [Bool.false_eq_true, if_false]
    by_cases hk : (nextW ws).1 = 1 ∧ kindOf (nextW ws.tail).2.1 = 0
    · rw [if_pos hk, if_pos hk]
    · rw [if_neg hk, if_neg hk]
theorem end_m (h : Lit) (b : List Lit) (t : List Wd) : endR h b (t ++ [mkW]) = mapM (endR h b t) := by
  unfold endR
  rw [take_m]
  cases ht : takeB [46] t with
  | false => rfl
  | true =>
    simp only [if_true]
    rw [takeR, takeR, if_pos ht, if_pos (by rw [take_m]; exact ht), tail_m (ne_take (by decide) ht)]
    rfl
theorem clause_m (ws : List Wd) : clauseL (ws ++ [mkW]) = mapM (clauseL ws) := by
  rw [clauseL_eq, clauseL_eq, atom_m termW term_m]
  cases atomL termW ws with
  | error e => rfl
  | ok p =>
    obtain ⟨h, t⟩ := p
    simp only [mapM]
    rw [take_m]
    have e : takeR [58, 45] (t ++ [mkW]) = takeR [58, 45] t ++ [mkW] := by
      rw [takeR, takeR, take_m]
      cases ht : takeB [58, 45] t with
      | false => rfl
      | true => simp only [if_true]; exact tail_m (ne_take (by decide) ht)
    rw [e, list_m litL lit_m, end_m]
    cases takeB [58, 45] t with
    | false => rfl
    | true =>
      simp only [if_true]
      cases listL litL 6 (takeR [58, 45] t) with
      | error e => rfl
      | ok q =>
        obtain ⟨b, r⟩ := q
        exact end_m h b r
/-- Behind a program's words a fault. -/
def faultP : Except Bool (List Rul) → Except Bool (List Rul)
  | .error e => .error e
  | .ok _ => .error false
theorem prog_m (n : Nat) : ∀ ws, progL n (ws ++ [mkW]) = faultP (progL n ws) := by
  induction n with
  | zero =>
    intro ws
    have hw' : ws ++ [mkW] ≠ [] := by simp
    by_cases hw : ws = []
    · rw [hw]; rfl
    · have h := clause_m ws
      cases hc : clauseL ws with
      | error e => rw [hc] at h; rw [progL_err hw hc, progL_err hw' h]; rfl
      | ok p => obtain ⟨x, t⟩ := p; rw [hc] at h; rw [progL_zero hw hc, progL_zero hw' h]; rfl
  | succ n ih =>
    intro ws
    have hw' : ws ++ [mkW] ≠ [] := by simp
    by_cases hw : ws = []
    · rw [hw]; rfl
    · have h := clause_m ws
      cases hc : clauseL ws with
      | error e => rw [hc] at h; rw [progL_err hw hc, progL_err hw' h]; rfl
      | ok p =>
        obtain ⟨x, t⟩ := p
        rw [hc] at h
        rw [progL_more hw hc, progL_more hw' h, ih]
        cases progL n t <;> rfl
/-- A text's program, by the words ahead of its first fault. -/
theorem prog_front (S : List UInt8) (n : Nat) : progL n (wordsL S) = if scanAt S 0 = none then faultP (progL n (frontAt S 0)) else progL n (frontAt S 0) := by
  unfold wordsL
  cases hs : scanAt S 0 with
  | some L =>
    rw [if_neg (by simp), Lx.frontAt_of_scan hs]
  | none =>
    rw [if_pos rfl]
    exact prog_m n (frontAt S 0)
end Go.Proofs.Ytdmhajeaphnebaa.Sy
namespace Go.Proofs.Ytdmhajeaphnebaa.Rp
open Go.RowKit
open Lx (Wd tx cellsW)
open Vl (Tm Fr)
open Sy

/-- The reference's parser at block r: at its a-th word, with its first error. -/
structure Pd (w : World) (r : Nat) (v : Value) (L : List Wd) (a : Nat) (e : Nat) : Prop where
  box : Bx w r 69 #[v, .int .i64 (a : Int), .int .i64 (e : Int)]
  row : w.ownsRow 0 86 3 v L.length (cellsW L)
  len : L.length ≤ 5000
  near : a ≤ 6000

theorem Pd.lt {w : World} {r : Nat} {v : Value} {L : List Wd} {a e : Nat} (h : Pd w r v L a e) : r < w.heap.size := h.box.lt
theorem Pd.not {w : World} {r : Nat} {v : Value} {L : List Wd} {a e : Nat} (h : Pd w r v L a e) {b e' s n : Nat} {u : Value} {xs : List Value} (ho : w.ownsRow b e' s u n xs) (he : e' ≠ 69) : ∀ k, u.ownBlock = some k → ¬ k = r := by
  intro k hk e2
  subst e2
  rcases ho.2 with ⟨rfl, _⟩ | ⟨g, cap, cur, rfl, _, hg, _⟩
  · simp [Value.ownBlock] at hk
  · simp [Value.ownBlock] at hk
    subst hk
    have := h.box.symm.trans hg
    simp only [Option.some.injEq, Obj.cells.injEq] at this
    exact he this.2.1.symm
theorem Pd.kept {w w' : World} {r : Nat} {v : Value} {L : List Wd} {a e : Nat} (h : Pd w r v L a e) (hf : Fr (fun k => k = r) w w') {b e' s n : Nat} {u : Value} {xs : List Value} (ho : w.ownsRow b e' s u n xs) (he : e' ≠ 69) : w'.ownsRow b e' s u n xs :=
  Vl.own_kept ho hf (h.not ho he)
theorem Pd.below {w w' : World} {r : Nat} {v : Value} {L : List Wd} {a e : Nat} (h : Pd w r v L a e) (hb : Below w.heap.size w w') : Pd w' r v L a e :=
  ⟨h.box.below hb, Lx.own_below h.row hb, h.len, h.near⟩
theorem Pd.shape {w : World} {r : Nat} {v : Value} {L : List Wd} {a e : Nat} (h : Pd w r v L a e) : ∃ ao cap, v = .slice ao L.length cap ∧ (0 < L.length → ∃ g, ao = some ⟨g, 0, none⟩ ∧ ∀ i (hi : i < L.length), w.cell? ⟨g, i * 3, none⟩ = some (.int .i64 (L[i].1 : Int)) ∧ w.cell? ⟨g, i * 3 + 1, none⟩ = some (.string (tx L[i].2.1)) ∧ w.cell? ⟨g, i * 3 + 2, none⟩ = some (.int .i64 (L[i].2.2 : Int))) := by
  have ho := h.row
  rcases Lx.own_shape ho with ⟨rfl, h0⟩ | ⟨g, cap, rfl, _⟩
  · exact ⟨none, 0, by rw [h0], fun hp => by omega⟩
  · refine ⟨_, cap, rfl, fun _ => ⟨g, rfl, fun i hi => ?_⟩⟩
    have hc := Lx.cellsW_get L i hi
    exact ⟨(ho.cellAt _ (by omega)).trans hc.1, (ho.cellAt _ (by omega)).trans hc.2.1, (ho.cellAt _ (by omega)).trans hc.2.2⟩
/-- Behind a store of the place; of the error. -/
theorem Pd.setAt {w : World} {r : Nat} {v : Value} {L : List Wd} {a e : Nat} (h : Pd w r v L a e) (b : Nat) (hb : b ≤ 6000) : Pd (w.setCell ⟨r, 1, none⟩ (.int .i64 (b : Int))) r v L b e ∧ Fr (fun k => k = r) w (w.setCell ⟨r, 1, none⟩ (.int .i64 (b : Int))) := by
  have hf : Fr (fun k => k = r) w (w.setCell ⟨r, 1, none⟩ (.int .i64 (b : Int))) := Vl.Fr.one w r 1 _
  exact ⟨⟨h.box.set 1 _, h.kept hf h.row (by decide), h.len, hb⟩, hf⟩
theorem Pd.setE {w : World} {r : Nat} {v : Value} {L : List Wd} {a e : Nat} (h : Pd w r v L a e) (b : Nat) : Pd (w.setCell ⟨r, 2, none⟩ (.int .i64 (b : Int))) r v L a b ∧ Fr (fun k => k = r) w (w.setCell ⟨r, 2, none⟩ (.int .i64 (b : Int))) := by
  have hf : Fr (fun k => k = r) w (w.setCell ⟨r, 2, none⟩ (.int .i64 (b : Int))) := Vl.Fr.one w r 2 _
  exact ⟨⟨h.box.set 2 _, h.kept hf h.row (by decide), h.len, h.near⟩, hf⟩
theorem Pd.step {w : World} {r : Nat} {v : Value} {L : List Wd} {a e : Nat} (h : Pd w r v L a e) (hb : a < 6000) : Pd (w.setCell ⟨r, 1, none⟩ (.int .i64 (wrap64 ((a : Int) + 1)))) r v L (a + 1) e ∧ Fr (fun k => k = r) w (w.setCell ⟨r, 1, none⟩ (.int .i64 (wrap64 ((a : Int) + 1)))) := by
  have e : wrap64 ((a : Int) + 1) = ((a + 1 : Nat) : Int) := by unfold wrap64; omega
  rw [e]
  exact h.setAt (a + 1) (by omega)

theorem Pd.stepI {w : World} {r : Nat} {v : Value} {L : List Wd} {a e : Nat} (h : Pd w r v L a e) (hb : a < 6000) : Pd (w.setCell ⟨r, 1, none⟩ (.int .i64 ((a : Int) + 1))) r v L (a + 1) e ∧ Fr (fun k => k = r) w (w.setCell ⟨r, 1, none⟩ (.int .i64 ((a : Int) + 1))) := by
  have e : (a : Int) + 1 = ((a + 1 : Nat) : Int) := by omega
  rw [e]
  exact h.setAt (a + 1) (by omega)

theorem res0 {fn : Func} (h : fn.results = #[]) (tmps : Array Value) (w : World) : (results fn tmps).run Try.prog w = .ok (.tuple #[]) w := by
  simp [results, h]

theorem bad_any {w : World} {r : Nat} {v : Value} {L : List Wd} {a e : Nat} (h : Pd w r v L a e) (c : Nat) :
    Calls Try.prog 29 #[.pointer (some ⟨r, 0, none⟩), .int .i64 (c : Int)] w fun x w' => x = .returned (.tuple #[]) ∧ Pd w' r v L a (if e = 0 then c else e) ∧ Fr (fun k => k = r) w w' := by
  obtain ⟨⟨c0, c1, c2⟩, f0, f1, f2⟩ := h.box.three
  have H := hide h
  by_cases h0 : e = 0
  · subst h0
    clear h
    go_enter Try.func29, Try.ntmps29
    go_wp2_with fail
    exact bodyPost_end (res0 rfl _ _) rfl ⟨rfl, (H.out.setE c).1, (H.out.setE c).2⟩
  · have g0 : ((e : Int) == 0) = false := by simp; omega
    rw [if_neg h0]
    clear h
    go_enter Try.func29, Try.ntmps29
    go_wp2_with fail
    exact bodyPost_end (res0 rfl _ _) rfl ⟨rfl, H.out, Fr.refl _ _⟩

/-- Is the next word that sign? -/
def signB (s : List UInt8) (ws : List Wd) : Bool := decide ((nextW ws).1 = 4) && decide ((nextW ws).2.1 = s)

set_option maxRecDepth 10000 in
set_option maxHeartbeats 2000000 in
theorem sign_any {w : World} {r : Nat} {v : Value} {L : List Wd} {a e : Nat} (h : Pd w r v L a e) (s : List UInt8) :
    Calls Try.prog 27 #[.pointer (some ⟨r, 0, none⟩), .string (tx s)] w fun x w' => x = .returned (.bool (signB s (L.drop a))) ∧ ∃ n, w' = w.drewN n := by
  obtain ⟨⟨c0, c1, c2⟩, _, _, _⟩ := h.box.three
  obtain ⟨ao, cap, rfl, hc⟩ := h.shape
  by_cases hl : a < L.length
  · have hlI : (a : Int) < (L.length : Int) := by omega
    obtain ⟨g, rfl, hc2⟩ := hc (by omega)
    obtain ⟨k0, k1, k2⟩ := hc2 a hl
    have hx : nextW (L.drop a) = L[a] := drop_next L a hl
    unfold signB
    rw [hx]
    have hbb := beq_bytes L[a].2.1 s
    clear hc hc2 h hx
    generalize L[a] = x at *
    by_cases h4 : x.1 = 4
    · have g4 : ((x.1 : Int) == 4) = true := by simp; omega
      by_cases hs : x.2.1 = s
      · have gs : ((tx x.2.1).toList == (tx s).toList) = true := by rw [hbb]; simpa using hs
        clear hbb
        go_enter Try.func27, Try.ntmps27
        go_wp2_with fail
        go_big_quiet (fail)
        go_wp2_with fail
        go_ret
        exact ⟨Vl.ret_bool (by simp [h4, hs]), _, rfl⟩
      · have gs : ((tx x.2.1).toList == (tx s).toList) = false := by rw [hbb]; simpa using hs
        clear hbb
        go_enter Try.func27, Try.ntmps27
        go_wp2_with fail
        go_big_quiet (fail)
        go_wp2_with fail
        go_ret
        exact ⟨Vl.ret_bool (by simp [hs]), _, rfl⟩
    · have g4 : ((x.1 : Int) == 4) = false := by simp; omega
      clear hbb
      go_enter Try.func27, Try.ntmps27
      go_wp2_with fail
      go_big_quiet (fail)
      go_wp2_with fail
      go_ret
      exact ⟨Vl.ret_bool (by simp [h4]), _, rfl⟩
  · have hx : nextW (L.drop a) = (0, [], 0) := by rw [drop_end L a (by omega)]; rfl
    have hlI : decide ((a : Int) < (L.length : Int)) = false := by simp; omega
    unfold signB
    rw [hx]
    clear hc h hx
    go_enter Try.func27, Try.ntmps27
    go_wp2_with fail
    go_big_quiet (fail)
    go_wp2_with fail
    go_ret
    exact ⟨rfl, _, rfl⟩

/-- A word's sign is told by its bytes. -/
theorem sign_take {L : List Wd} (hL : ∀ x ∈ L, OkW x) (a : Nat) (s : List UInt8) (hs : s ≠ []) (hk : Lx.kindL s = 4) : signB s (L.drop a) = takeB s (L.drop a) := by
  unfold signB takeB
  by_cases ht : (nextW (L.drop a)).2.1 = s
  · have hlt : a < L.length := by
      by_cases hl : a < L.length
      · exact hl
      · rw [drop_end L a (by omega)] at ht
        exact absurd ht.symm hs
    have hx := drop_next L a hlt
    rw [hx] at ht ⊢
    have h4 : L[a].1 = 4 := by rw [(hL _ (List.getElem_mem hlt)).kind, ht, hk]
    simp [h4]
  · simp [ht]

set_option maxRecDepth 10000 in
theorem eat_any {w : World} {r : Nat} {v : Value} {L : List Wd} {a : Nat} (h : Pd w r v L a 0) (s : List UInt8) (hn : a < 6000) :
    Calls Try.prog 30 #[.pointer (some ⟨r, 0, none⟩), .string (tx s)] w fun x w' => x = .returned (.tuple #[]) ∧ (∃ a', Pd w' r v L a' (if signB s (L.drop a) = true then 0 else 4) ∧ (signB s (L.drop a) = true → a' = a + 1) ∧ a' ≤ a + 1) ∧ Fr (fun k => k = r) w w' := by
  have HS := hide (sign_any h s)
  obtain ⟨⟨c0, c1, c2⟩, f0, f1, f2⟩ := h.box.three
  have H := hide h
  clear h
  generalize signB s (L.drop a) = b at *
  go_enter Try.func30, Try.ntmps30
  go_wp2_with fail
  refine Calls.mono HS.out ?_
  rintro x w1 ⟨rfl, n, rfl⟩
  have H1 := hide (H.out.below (Sy.below_drewN w n))
  cases b
  · have HB := hide (bad_any H1.out 4)
    clear HS
    go_wp2_with fail
    refine Calls.mono HB.out ?_
    rintro x w2 ⟨rfl, h2, f2'⟩
    go_wp2_with fail
    refine bodyPost_ret (res0 rfl _ _) rfl ?_
    exact ⟨rfl, ⟨a, h2, by omega⟩, (Fr.of_below (Sy.below_drewN w n)).trans f2' (fun _ _ e => e)⟩
  · clear HS
    go_wp2_with fail
    refine bodyPost_end (res0 rfl _ _) rfl ?_
    have hst := H1.out.stepI hn
    exact ⟨rfl, ⟨a + 1, hst.1, rfl, by omega⟩, (Fr.of_below (Sy.below_drewN w n)).trans hst.2 (fun _ _ e => e)⟩

/-- With an error eat does nothing. -/
theorem eat_err {w : World} {r : Nat} {v : Value} {L : List Wd} {a e : Nat} (h : Pd w r v L a e) (he : e ≠ 0) (s : List UInt8) :
    Calls Try.prog 30 #[.pointer (some ⟨r, 0, none⟩), .string (tx s)] w fun x w' => x = .returned (.tuple #[]) ∧ w' = w := by
  obtain ⟨⟨c0, c1, c2⟩, _, _, _⟩ := h.box.three
  have g0 : ((e : Int) == 0) = false := by simp; omega
  clear h
  go_enter Try.func30, Try.ntmps30
  go_wp2_with fail
  exact bodyPost_ret (res0 rfl _ _) rfl ⟨rfl, rfl⟩
end Go.Proofs.Ytdmhajeaphnebaa.Rp
namespace Go.Proofs.Ytdmhajeaphnebaa.Rp
open Go.RowKit
open Lx (Wd tx cellsW bt bt_at digitN)
open Vl (Tm Fr)
open Sy

/-- The value of a number's bytes, a minus being passed by. -/
def stepD (n : Nat) (c : UInt8) : Nat := if c.toNat = 45 then n else n * 10 + (c.toNat - 48)
def valD (x : List UInt8) : Nat := x.foldl stepD 0
theorem valD_snoc (x : List UInt8) (c : UInt8) : valD (x ++ [c]) = stepD (valD x) c := by simp [valD]
theorem valD_take (x : List UInt8) (i : Nat) (h : i < x.length) : valD (x.take (i + 1)) = stepD (valD (x.take i)) x[i] := by
  rw [List.take_succ_eq_append_getElem h, valD_snoc]
theorem valD_lt (x : List UInt8) (h : ∀ c ∈ x, c.toNat ≤ 57) : valD x < 10 ^ x.length := by
  have key : ∀ (y : List UInt8) (n k : Nat), n < 10 ^ k → (∀ c ∈ y, c.toNat ≤ 57) → y.foldl stepD n < 10 ^ (k + y.length) := by
    intro y
    induction y with
    | nil => intro n k h _; simpa using h
    | cons c t ih =>
      intro n k hn hc
      have hc0 := hc c (by simp)
      have hs : stepD n c < 10 ^ (k + 1) := by
        have : 10 ^ (k + 1) = 10 ^ k * 10 := Nat.pow_succ _ _
        unfold stepD
        split <;> omega
      have := ih (stepD n c) (k + 1) hs (fun d hd => hc d (by simp [hd]))
      rw [List.foldl_cons, List.length_cons, show k + (t.length + 1) = k + 1 + t.length by omega]
      exact this
  have := key x 0 0 (by decide) h
  rw [Nat.zero_add] at this
  exact this
theorem valD_digits (r : List UInt8) (h : ∀ c ∈ r, digitN c.toNat = true) (n : Nat) : r.foldl stepD n = valL n r := by
  induction r generalizing n with
  | nil => rfl
  | cons c t ih =>
    have hc := digit_range (h c (by simp))
    rw [List.foldl_cons, valL_cons, ih (fun d hd => h d (by simp [hd]))]
    congr 1
    unfold stepD
    rw [if_neg (by omega)]
theorem num_valD {x : Wd} (h : OkW x) (h3 : x.1 = 3) : numOf x.2.1 = (if (x.2.1.getD 0 0).toNat = 45 then -((valD x.2.1 : Nat) : Int) else ((valD x.2.1 : Nat) : Int)) ∧ (∀ c ∈ x.2.1, c.toNat = 45 ∨ (48 ≤ c.toNat ∧ c.toNat ≤ 57)) := by
  rcases h.num h3 with hd | ⟨r, hr, hrn, hd⟩
  · refine ⟨?_, fun c hc => Or.inr (digit_range (hd c hc))⟩
    have e : valD x.2.1 = valL 0 x.2.1 := valD_digits _ hd 0
    obtain ⟨c, t, hx⟩ := List.exists_cons_of_ne_nil h.ne
    have hc := digit_range (hd c (by rw [hx]; simp))
    have h45 : ¬ (x.2.1.getD 0 0).toNat = 45 := by
      rw [hx]
      simp
      omega
    rw [numOf, if_neg h45, if_neg h45, e]
  · rw [hr]
    refine ⟨?_, fun c hc => ?_⟩
    · have e : valD (45 :: r) = valL 0 r := by
        show (45 :: r).foldl stepD 0 = _
        rw [List.foldl_cons]
        exact valD_digits r hd 0
      rw [numOf, e]
      rfl
    · rcases List.mem_cons.1 hc with rfl | hc
      · left; rfl
      · right; exact digit_range (hd c hc)

/-- A parser, seen from a world ahead. -/
structure Pw (w : World) (r : Nat) (v : Value) (L : List Wd) (a e : Nat) (W : World) : Prop where
  pd : Pd W r v L a e
  fr : Fr (fun k => k = r) w W
theorem Pw.refl {w : World} {r : Nat} {v : Value} {L : List Wd} {a e : Nat} (h : Pd w r v L a e) : Pw w r v L a e w := ⟨h, Fr.refl _ _⟩
theorem Pw.below {w W W' : World} {r : Nat} {v : Value} {L : List Wd} {a e : Nat} (h : Pw w r v L a e W) (hb : Below W.heap.size W W') : Pw w r v L a e W' :=
  ⟨h.pd.below hb, h.fr.trans (Fr.of_below (F := fun k => k = r) hb) (fun _ _ e => e)⟩
theorem Pw.alloc {w W : World} {r : Nat} {v : Value} {L : List Wd} {a e : Nat} (h : Pw w r v L a e W) (o : Obj) : Pw w r v L a e (W.alloc o) := h.below (Lx.below_box W o)
theorem Pw.then {w W W' : World} {r : Nat} {v : Value} {L : List Wd} {a e b f : Nat} (h : Pw w r v L a e W) (hr : Pd W' r v L b f) (hf : Fr (fun k => k = r) W W') : Pw w r v L b f W' :=
  ⟨hr, h.fr.trans hf (fun _ _ e => e)⟩
theorem Pw.put {w W : World} {r : Nat} {v : Value} {L : List Wd} {a0 e0 a e : Nat} (h : Pw w r v L a e W) (h0 : Pd w r v L a0 e0) (b i : Nat) (hb : w.heap.size ≤ b) (x : Value) : Pw w r v L a e (W.setCell ⟨b, i, none⟩ x) := by
  have hlt := h0.lt
  have hf : Fr (fun k => k = r) w (W.setCell ⟨b, i, none⟩ x) := h.fr.setCell (p := ⟨b, i, none⟩) (fun hp => by
    have : b < w.heap.size := hp
    omega) x
  exact ⟨⟨h.pd.box.fr (F := fun k => k = b) (Vl.Fr.one W b i x) (by omega), h0.kept hf h0.row (by decide), h.pd.len, h.pd.near⟩, hf⟩
theorem Pw.put3 {w W : World} {r : Nat} {v : Value} {L : List Wd} {a0 e0 a e : Nat} (h : Pw w r v L a e W) (h0 : Pd w r v L a0 e0) (b : Nat) (hb : w.heap.size ≤ b) (x y z : Value) : Pw w r v L a e (((W.setCell ⟨b, 0, none⟩ x).setCell ⟨b, 1, none⟩ y).setCell ⟨b, 2, none⟩ z) :=
  (((h.put h0 b 0 hb x).put h0 b 1 hb y).put h0 b 2 hb z)

/-- What the reference's term gives. -/
def Tr (R : Re Tm) (r : Nat) (v : Value) (L : List Wd) (a : Nat) (w : World) (x : Ending) (w' : World) : Prop :=
  (match R with
  | .error _ => ∃ (t : Tm) (a' : Nat), x = .returned (Vl.tv t) ∧ Pd w' r v L a' 4 ∧ a' ≤ a + 1
  | .ok (t, _) => x = .returned (Vl.tv t) ∧ Pd w' r v L (a + 1) 0 ∧ a < L.length) ∧ Fr (fun k => k = r) w w'

set_option maxRecDepth 10000 in
set_option maxHeartbeats 4000000 in
theorem term_none {w : World} {r : Nat} {v : Value} {L : List Wd} {a : Nat} (h : Pd w r v L a 0) (hx : L.length ≤ a ∨ (∃ hl : a < L.length, L[a].1 = 4)) :
    Calls Try.prog 38 #[.pointer (some ⟨r, 0, none⟩)] w fun x w' => Tr (.error false) r v L a w x w' := by
  have hrlt := h.lt
  have H := hide h
  have h1 : Pd (w.alloc (.cells #[.int .i64 0, .string ⟨#[]⟩, .int .i64 0] 88)) r v L a 0 := h.below (Lx.below_box w _)
  have b1 : Bx (w.alloc (.cells #[.int .i64 0, .string ⟨#[]⟩, .int .i64 0] 88)) w.heap.size 88 #[.int .i64 0, .string ⟨#[]⟩, .int .i64 0] := Bx.new w _ _
  have f1 : Fr (fun k => k = r) w (w.alloc (.cells #[.int .i64 0, .string ⟨#[]⟩, .int .i64 0] 88)) := Fr.of_below (Lx.below_box w _)
  go_enter Try.func38, Try.ntmps38
  go_wp2_with fail
  generalize w.alloc (.cells #[.int .i64 0, .string ⟨#[]⟩, .int .i64 0] 88) = W at *
  obtain ⟨⟨c0, c1, c2⟩, _, _, _⟩ := h1.box.three
  have H1 := hide h1
  have B1 := hide b1
  have F1 := hide f1
  clear b1 f1
  obtain ⟨ao, cap, rfl, hc⟩ := h1.shape
  -- behind the test
  have END : Hid (∀ n, Calls Try.prog 29 #[.pointer (some ⟨r, 0, none⟩), .int .i64 4] (W.drewN n) fun x w' => x = .returned (.tuple #[]) ∧ Pd w' r (.slice ao L.length cap) L a 4 ∧ Bx w' w.heap.size 88 #[.int .i64 0, .string ⟨#[]⟩, .int .i64 0] ∧ Fr (fun k => k = r) w w') := fun n => by
    refine (bad_any (H1.out.below (Sy.below_drewN W n)) 4).mono ?_
    rintro x w' ⟨rfl, hp, hf⟩
    exact ⟨rfl, hp, (B1.out.below (Sy.below_drewN W n)).fr hf (by omega), (F1.out.trans (Fr.of_below (F := fun k => k = r) (Sy.below_drewN W n)) (fun _ _ e => e)).trans hf (fun _ _ e => e)⟩
  by_cases hl : a < L.length
  · have h4 : L[a].1 = 4 := by
      rcases hx with hx | ⟨_, hx⟩
      · omega
      · exact hx
    obtain ⟨g, rfl, hc2⟩ := hc (by omega)
    have k0 := (hc2 a hl).1
    rw [h4] at k0
    have hlI : decide (L.length ≤ a) = false := by simp; omega
    have hlI2 : (a : Int) < (L.length : Int) := by omega
    clear hc hc2 h h1 hx
    go_big_quiet (fail)
    go_wp2_with fail
    refine Calls.mono (END.out _) ?_
    rintro x w2 ⟨rfl, hp, hb, hf⟩
    obtain ⟨⟨d0, d1, d2⟩, e0, e1, e2⟩ := hb.three
    have HP := hide hp
    have HB := hide hb
    have HF := hide hf
    clear hp hb hf END c0 c1 c2 k0
    go_wp2_with fail
    refine bodyPost_ret (results_cell_row rfl _ _ w.heap.size 88 _ (0, 0) _ rfl (((HB.out.set 0 _).set 1 _).set 2 _) Try.underlying88 rfl sz53) rfl ?_
    have q1 := Pw.put3 (⟨HP.out, HF.out⟩ : Pw w r _ L a 4 w2) H.out w.heap.size (Nat.le_refl _) (.int .i64 0) (.string ⟨#[]⟩) (.int .i64 0)
    exact ⟨⟨(0, ⟨#[]⟩, 0), a, rfl, q1.pd, by omega⟩, q1.fr⟩
  · have hlI : decide (L.length ≤ a) = true := by simp; omega
    clear hc h h1 hx
    go_big_quiet (fail)
    go_wp2_with fail
    refine Calls.mono (END.out _) ?_
    rintro x w2 ⟨rfl, hp, hb, hf⟩
    obtain ⟨⟨d0, d1, d2⟩, e0, e1, e2⟩ := hb.three
    have HP := hide hp
    have HB := hide hb
    have HF := hide hf
    clear hp hb hf END c0 c1 c2
    go_wp2_with fail
    refine bodyPost_ret (results_cell_row rfl _ _ w.heap.size 88 _ (0, 0) _ rfl (((HB.out.set 0 _).set 1 _).set 2 _) Try.underlying88 rfl sz53) rfl ?_
    have q1 := Pw.put3 (⟨HP.out, HF.out⟩ : Pw w r _ L a 4 w2) H.out w.heap.size (Nat.le_refl _) (.int .i64 0) (.string ⟨#[]⟩) (.int .i64 0)
    exact ⟨⟨(0, ⟨#[]⟩, 0), a, rfl, q1.pd, by omega⟩, q1.fr⟩

set_option maxRecDepth 10000 in
set_option maxHeartbeats 4000000 in
theorem term_some {w : World} {r : Nat} {v : Value} {L : List Wd} {a : Nat} (h : Pd w r v L a 0) (hl : a < L.length) (hx : OkW L[a]) (h4 : ¬ L[a].1 = 4) :
    Calls Try.prog 38 #[.pointer (some ⟨r, 0, none⟩)] w fun x w' => Tr (oneL termW (L.drop a)) r v L a w x w' := by
  have hrlt := h.lt
  have H := hide h
  have hlen := h.len
  have h1 : Pd (w.alloc (.cells #[.int .i64 0, .string ⟨#[]⟩, .int .i64 0] 88)) r v L a 0 := h.below (Lx.below_box w _)
  have b1 : Bx (w.alloc (.cells #[.int .i64 0, .string ⟨#[]⟩, .int .i64 0] 88)) w.heap.size 88 #[.int .i64 0, .string ⟨#[]⟩, .int .i64 0] := Bx.new w _ _
  have f1 : Fr (fun k => k = r) w (w.alloc (.cells #[.int .i64 0, .string ⟨#[]⟩, .int .i64 0] 88)) := Fr.of_below (Lx.below_box w _)
  have hnx : nextW (L.drop a) = L[a] := drop_next L a hl
  have HR : Hid (oneL termW (L.drop a) = match termW L[a] with
    | none => .error false
    | some t => .ok (t, L.drop (a + 1))) := by show _ = _; rw [oneL, hnx, drop_tail]; cases termW L[a] <;> rfl
  go_enter Try.func38, Try.ntmps38
  go_wp2_with fail
  have hsW : w.heap.size < (w.alloc (.cells #[.int .i64 0, .string ⟨#[]⟩, .int .i64 0] 88)).heap.size := by simp
  generalize w.alloc (.cells #[.int .i64 0, .string ⟨#[]⟩, .int .i64 0] 88) = W at *
  obtain ⟨⟨c0, c1, c2⟩, _, _, _⟩ := h1.box.three
  have P1 := hide (⟨h1, f1⟩ : Pw w r v L a 0 W)
  have B1 := hide b1
  clear b1 f1 hnx
  obtain ⟨ao, cap, rfl, hc⟩ := h1.shape
  obtain ⟨g, rfl, hc2⟩ := hc (by omega)
  obtain ⟨k0, k1, k2⟩ := hc2 a hl
  have hlI : decide (L.length ≤ a) = false := by simp; omega
  have hlI2 : (a : Int) < (L.length : Int) := by omega
  have h4b : ((L[a].1 : Int) == 4) = false := by simp; omega
  have HX := hide hx
  clear hc hc2 h h1 hx
  generalize L[a] = x at *
  go_big_quiet (fail)
  obtain ⟨W2, hW2⟩ : ∃ W2, W.drewN nq = W2 := ⟨_, rfl⟩
  have hb2 : Below W.heap.size W W2 := by rw [← hW2]; exact Sy.below_drewN W nq
  rw [hW2]
  clear hW2
  have P2 := hide (P1.out.below hb2)
  have B2 := hide (B1.out.below hb2)
  have e0 := cell_below' c0 hb2
  have e1 := cell_below' c1 hb2
  have q0 := cell_below' k0 hb2
  have q1 := cell_below' k1 hb2
  have q2 := cell_below' k2 hb2
  have l0 := fun o => cell_below' e0 (Lx.below_box W2 o)
  have l1 := fun o => cell_below' e1 (Lx.below_box W2 o)
  have m0 := fun o => cell_below' q0 (Lx.below_box W2 o)
  have m1 := fun o => cell_below' q1 (Lx.below_box W2 o)
  have m2 := fun o => cell_below' q2 (Lx.below_box W2 o)
  have hs2 : w.heap.size < W2.heap.size := Nat.lt_of_lt_of_le hsW hb2.size
  clear c0 c1 c2 k0 k1 k2 P1 B1 hb2 hsW
  go_wp2_with fail
  go_cut [3] from 40 to 49 (fun p wc => p = .pointer (some ⟨W2.heap.size, 0, none⟩) ∧ wc = (W2.alloc (.cells #[.int .i64 (x.1 : Int), .string (tx x.2.1), .int .i64 (x.2.2 : Int)] 86)).drew)
  case first =>
    go_region_with (fail)
    all_goals go_wp2_with fail
    all_goals go_meet
    all_goals exact ⟨rfl, rfl⟩
  case rest =>
    obtain ⟨rfl, hw3⟩ := hcut
    have P3 : Hid (Pw w r (.slice (some ⟨g, 0, none⟩) L.length cap) L a 0 wc) := by rw [hw3]; exact (P2.out.alloc _).below ((Below.refl _ _).drew)
    have B3 : Hid (Bx wc w.heap.size 88 #[.int .i64 0, .string ⟨#[]⟩, .int .i64 0]) := by rw [hw3]; exact (B2.out.below (Lx.below_box W2 _)).below ((Below.refl _ _).drew)
    have T3 : Hid (Bx wc W2.heap.size 86 #[.int .i64 (x.1 : Int), .string (tx x.2.1), .int .i64 (x.2.2 : Int)]) := by rw [hw3]; exact (Bx.new W2 _ _).below ((Below.refl _ _).drew)
    clear hw3 l0 l1 m0 m1 m2 e0 e1 q0 q1 q2 P2 B2
    obtain ⟨⟨c0, c1, c2⟩, f0, f1, f2⟩ := P3.out.pd.box.three
    have hst := P3.out.pd.stepI (by omega)
    have P4 := hide (P3.out.then hst.1 hst.2)
    have B4 := hide (B3.out.fr hst.2 (by omega))
    have T4 := hide (T3.out.fr hst.2 (by omega))
    clear hst P3 B3 T3
    obtain ⟨⟨d0, d1, d2⟩, g0, g1, g2⟩ := B4.out.three
    obtain ⟨⟨t0, t1, t2⟩, _, _, _⟩ := T4.out.three
    by_cases h1 : x.1 = 1
    · have hk1 : ((x.1 : Int) == 1) = true := by simp; omega
      have HR' : Hid (oneL termW (L.drop a) = .ok ((2, tx x.2.1, 0), L.drop (a + 1))) := by show _ = _; rw [HR.out]; simp [termW, constW, h1]
      clear HR
      go_wp2_with fail
      refine bodyPost_ret (results_cell_row rfl _ _ w.heap.size 88 _ (0, 0) _ rfl (((B4.out.set 0 _).set 1 _).set 2 _) Try.underlying88 rfl sz53) rfl ?_
      have q1 := P4.out.put3 H.out w.heap.size (Nat.le_refl _) (.int .i64 2) (.string (tx x.2.1)) (.int .i64 0)
      rw [HR'.out]
      exact ⟨⟨rfl, q1.pd, hl⟩, q1.fr⟩
    · have hk1 : ((x.1 : Int) == 1) = false := by simp; omega
      by_cases h2 : x.1 = 2
      · have hk2 : ((x.1 : Int) == 2) = true := by simp; omega
        have HR' : Hid (oneL termW (L.drop a) = .ok ((1, tx x.2.1, 0), L.drop (a + 1))) := by show _ = _; rw [HR.out]; simp [termW, h2]
        clear HR
        go_wp2_with fail
        refine bodyPost_ret (results_cell_row rfl _ _ w.heap.size 88 _ (0, 0) _ rfl (((B4.out.set 0 _).set 1 _).set 2 _) Try.underlying88 rfl sz53) rfl ?_
        have q1 := P4.out.put3 H.out w.heap.size (Nat.le_refl _) (.int .i64 1) (.string (tx x.2.1)) (.int .i64 0)
        rw [HR'.out]
        exact ⟨⟨rfl, q1.pd, hl⟩, q1.fr⟩
      · have hk2 : ((x.1 : Int) == 2) = false := by simp; omega
        have h3 : x.1 = 3 := by
          have hk := HX.out.kind
          have : Lx.kindL x.2.1 ≤ 4 := (Lx.kindN_pos _).2
          have : 1 ≤ Lx.kindL x.2.1 := (Lx.kindN_pos _).1
          omega
        obtain ⟨hnum, hby⟩ := num_valD HX.out h3
        have hl16 := HX.out.len
        have hne := List.length_pos_iff.2 HX.out.ne
        have hvb : ∀ k, k ≤ x.2.1.length → valD (x.2.1.take k) < 10000000000000000 := fun k hk => by
          have h1 := valD_lt (x.2.1.take k) (fun c hc => by have := hby c (List.mem_of_mem_take hc); omega)
          have h2 : (10 : Nat) ^ (x.2.1.take k).length ≤ 10 ^ 16 := Nat.pow_le_pow_right (by decide) (by rw [List.length_take]; omega)
          have h3 : (10 : Nat) ^ 16 = 10000000000000000 := by decide
          omega
        have HVB := hide hvb
        have HBY := hide hby
        have HNM := hide hnum
        clear hvb hby hnum
        have hsz : (tx x.2.1).size = x.2.1.length := rfl
        go_wp2_with fail
        go_loopw [4, 5] (fun nv iv wr => ∃ k : Nat, iv = .int .i64 k ∧ k ≤ x.2.1.length ∧ nv = .int .i64 ((valD (x.2.1.take k) : Nat) : Int) ∧ wr = wc.setCell ⟨r, 1, none⟩ (.int .i64 ((a : Int) + 1))) (fun _ iv _ => x.2.1.length - (intOf iv).toNat)
        case atStart => exact ⟨0, rfl, Nat.zero_le _, rfl, rfl⟩
        case round =>
          obtain ⟨k, rfl, hk, rfl, hw⟩ := hrel
          subst hw
          by_cases hlt : k < x.2.1.length
          · have hltI : (k : Int) < ((tx x.2.1).size : Int) := by omega
            have bk := bt_at (tx x.2.1) k hlt
            have hbt : bt (tx x.2.1) k = (x.2.1[k]).toNat := by
              show (x.2.1.getD k 0).toNat = _
              rw [List.getD, List.getElem?_eq_getElem hlt]
              rfl
            have hst := valD_take x.2.1 k hlt
            have hb2 := HBY.out x.2.1[k] (List.getElem_mem hlt)
            have hv1 := HVB.out k hk
            have hv2 := HVB.out (k + 1) hlt
            rw [← hbt] at hb2
            by_cases h45 : bt (tx x.2.1) k = 45
            · have g45 : ((bt (tx x.2.1) k : Int) == 45) = true := by simp; omega
              have hsame : valD (x.2.1.take (k + 1)) = valD (x.2.1.take k) := by rw [hst, stepD, if_pos (by rw [← hbt]; exact h45)]
              have HS := hide hsame
              clear hst hsame hb2 h45 hbt
              go_wp2_with fail
              go_roundw
              case rel => exact ⟨k + 1, by go_num, by omega, by rw [HS.out], trivial⟩
              case measure => simp [intOf]; omega
            · have g45 : ((bt (tx x.2.1) k : Int) == 45) = false := by simp; omega
              have hnext : valD (x.2.1.take (k + 1)) = valD (x.2.1.take k) * 10 + (bt (tx x.2.1) k - 48) := by rw [hst, stepD, if_neg (by rw [← hbt]; exact h45), hbt]
              have HS := hide hnext
              have hlo : 48 ≤ bt (tx x.2.1) k := by omega
              have hhi : bt (tx x.2.1) k ≤ 57 := by omega
              clear hst hnext hb2 h45 hbt hv2
              go_wp2_with fail
              exact ⟨⟨k + 1, by go_num, by omega, congrArg (Value.int .i64) (by rw [HS.out]; have bk' := bt_at (tx x.2.1) k hlt; omega), trivial⟩, by simp [intOf]; omega⟩
          · have hke : k = x.2.1.length := by omega
            have hltI : ¬ (k : Int) < ((tx x.2.1).size : Int) := by omega
            have hvk := HVB.out k hk
            have b0 := bt_at (tx x.2.1) 0 hne
            have hb0 : bt (tx x.2.1) 0 = (x.2.1.getD 0 0).toNat := rfl
            have hvd : valD (x.2.1.take k) = valD x.2.1 := by rw [hke, List.take_length]
            rw [hvd] at hvk ⊢
            have hN := HNM.out
            rw [← hb0] at hN
            by_cases hbig : 2147483648 < valD x.2.1
            · have gb : (2147483648 : Int) < ((valD x.2.1 : Nat) : Int) := by omega
              have HR' : Hid (oneL termW (L.drop a) = .error false) := by
                show _ = _
                rw [HR.out]
                have : ¬ (-2147483648 ≤ numOf x.2.1 ∧ numOf x.2.1 ≤ 2147483648) := by
                  rw [hN]
                  split <;> omega
                simp [termW, constW, h3, this]
              have HBd := hide (bad_any P4.out.pd 4)
              clear HR hN hb0
              go_wp2_with fail
              refine Calls.mono HBd.out ?_
              rintro y w5 ⟨rfl, hp5, hf5⟩
              have P5 := hide (P4.out.then hp5 hf5)
              have B5 := hide (B4.out.fr hf5 (by omega))
              obtain ⟨⟨x0, x1, x2⟩, y0, y1, y2⟩ := B5.out.three
              clear HBd hp5 hf5
              go_wp2_with fail
              refine bodyPost_ret (results_cell_row rfl _ _ w.heap.size 88 _ (0, 0) _ rfl (((B5.out.set 0 _).set 1 _).set 2 _) Try.underlying88 rfl sz53) rfl ?_
              have q1 := P5.out.put3 H.out w.heap.size (Nat.le_refl _) (.int .i64 0) (.string ⟨#[]⟩) (.int .i64 0)
              rw [HR'.out]
              exact ⟨⟨(0, ⟨#[]⟩, 0), a + 1, rfl, q1.pd, by omega⟩, q1.fr⟩
            · have gb : ¬ (2147483648 : Int) < ((valD x.2.1 : Nat) : Int) := by omega
              have HR' : Hid (oneL termW (L.drop a) = .ok ((3, ⟨#[]⟩, numOf x.2.1), L.drop (a + 1))) := by
                show _ = _
                rw [HR.out]
                have : -2147483648 ≤ numOf x.2.1 ∧ numOf x.2.1 ≤ 2147483648 := by
                  rw [hN]
                  split <;> omega
                simp [termW, constW, h3, this]
              clear HR
              by_cases h45 : bt (tx x.2.1) 0 = 45
              · have g45 : ((bt (tx x.2.1) 0 : Int) == 45) = true := by simp; omega
                rw [if_pos h45] at hN
                have HN := hide hN
                clear hN hb0 h45
                go_wp2_with fail
                refine bodyPost_ret (results_cell_row rfl _ _ w.heap.size 88 _ (0, 0) _ rfl (((B4.out.set 0 _).set 1 _).set 2 _) Try.underlying88 rfl sz53) rfl ?_
                have q1 := P4.out.put3 H.out w.heap.size (Nat.le_refl _) (.int .i64 3) (.string ⟨#[]⟩) (.int .i64 (-((valD x.2.1 : Nat) : Int)))
                rw [HR'.out, HN.out]
                exact ⟨⟨rfl, q1.pd, hl⟩, q1.fr⟩
              · have g45 : ((bt (tx x.2.1) 0 : Int) == 45) = false := by simp; omega
                rw [if_neg h45] at hN
                have HN := hide hN
                clear hN hb0 h45
                go_wp2_with fail
                refine bodyPost_ret (results_cell_row rfl _ _ w.heap.size 88 _ (0, 0) _ rfl (((B4.out.set 0 _).set 1 _).set 2 _) Try.underlying88 rfl sz53) rfl ?_
                have q1 := P4.out.put3 H.out w.heap.size (Nat.le_refl _) (.int .i64 3) (.string ⟨#[]⟩) (.int .i64 ((valD x.2.1 : Nat) : Int))
                rw [HR'.out, HN.out]
                exact ⟨⟨rfl, q1.pd, hl⟩, q1.fr⟩

/-- The reference's term. -/
theorem rterm_any {w : World} {r : Nat} {v : Value} {L : List Wd} {a : Nat} (h : Pd w r v L a 0) (hL : ∀ x ∈ L, OkW x) :
    Calls Try.prog 38 #[.pointer (some ⟨r, 0, none⟩)] w fun x w' => Tr (oneL termW (L.drop a)) r v L a w x w' := by
  by_cases hl : a < L.length
  · by_cases h4 : L[a].1 = 4
    · have e : oneL termW (L.drop a) = .error false := by rw [oneL, drop_next L a hl]; simp [termW, constW, h4]
      rw [e]
      exact term_none h (Or.inr ⟨hl, h4⟩)
    · exact term_some h hl (hL _ (List.getElem_mem hl)) h4
  · have e : oneL termW (L.drop a) = .error false := by rw [oneL, drop_end L a (by omega)]; rfl
    rw [e]
    exact term_none h (Or.inl (by omega))
end Go.Proofs.Ytdmhajeaphnebaa.Rp
namespace Go.Proofs.Ytdmhajeaphnebaa.Rp
open Go.RowKit
open Lx (Wd tx cellsW wpList_append_run)
open Vl (Tm Fr)
open Sy

/-- A literal's value, whatever it holds. -/
def anyLit (y : Value) : Prop := ∃ (k : Int) (n : ByteArray) (ao : Option Addr) (m cap : Nat), y = .agg #[.int .i64 k, .string n, .slice ao m cap]
/-- What the reference's methods that read a literal give. -/
def Lr (R : Re Sy.Lit) (r : Nat) (v : Value) (L : List Wd) (a : Nat) (w : World) (x : Ending) (w' : World) : Prop :=
  (match R with
  | .error c => ∃ y a', x = .returned y ∧ anyLit y ∧ Pd w' r v L a' (if c = true then 8 else 4) ∧ a' ≤ L.length + 1
  | .ok (l, rest) => ∃ y a', x = .returned y ∧ isLit w' l y ∧ Pd w' r v L a' 0 ∧ L.drop a' = rest ∧ a < a' ∧ a' ≤ L.length) ∧ Fr (fun k => k = r) w w'

set_option maxRecDepth 10000 in
set_option maxHeartbeats 4000000 in
theorem atom_none {w : World} {r : Nat} {v : Value} {L : List Wd} {a : Nat} (h : Pd w r v L a 0) (ha : a ≤ L.length) (hx : L.length ≤ a ∨ (∃ hl : a < L.length, ¬ L[a].1 = 1)) :
    Calls Try.prog 26 #[.pointer (some ⟨r, 0, none⟩)] w fun x w' => Lr (.error false) r v L a w x w' := by
  have hrlt := h.lt
  have H := hide h
  have h1 : Pd (w.alloc (.cells #[.int .i64 0, .string ⟨#[]⟩, .slice none 0 0] 57)) r v L a 0 := h.below (Lx.below_box w _)
  have b1 : Bx (w.alloc (.cells #[.int .i64 0, .string ⟨#[]⟩, .slice none 0 0] 57)) w.heap.size 57 #[.int .i64 0, .string ⟨#[]⟩, .slice none 0 0] := Bx.new w _ _
  have f1 : Fr (fun k => k = r) w (w.alloc (.cells #[.int .i64 0, .string ⟨#[]⟩, .slice none 0 0] 57)) := Fr.of_below (Lx.below_box w _)
  go_enter Try.func26, Try.ntmps26
  go_wp2_with fail
  generalize w.alloc (.cells #[.int .i64 0, .string ⟨#[]⟩, .slice none 0 0] 57) = W at *
  obtain ⟨⟨c0, c1, c2⟩, _, _, _⟩ := h1.box.three
  have H1 := hide h1
  have B1 := hide b1
  have F1 := hide f1
  clear b1 f1
  obtain ⟨ao, cap, rfl, hc⟩ := h1.shape
  have END : Hid (∀ n, Calls Try.prog 29 #[.pointer (some ⟨r, 0, none⟩), .int .i64 4] (W.drewN n) fun x w' => x = .returned (.tuple #[]) ∧ Pd w' r (.slice ao L.length cap) L a 4 ∧ Bx w' w.heap.size 57 #[.int .i64 0, .string ⟨#[]⟩, .slice none 0 0] ∧ Fr (fun k => k = r) w w') := fun n => by
    refine (bad_any (H1.out.below (Sy.below_drewN W n)) 4).mono ?_
    rintro x w' ⟨rfl, hp, hf⟩
    exact ⟨rfl, hp, (B1.out.below (Sy.below_drewN W n)).fr hf (by omega), (F1.out.trans (Fr.of_below (F := fun k => k = r) (Sy.below_drewN W n)) (fun _ _ e => e)).trans hf (fun _ _ e => e)⟩
  by_cases hl : a < L.length
  · have h4 : ¬ L[a].1 = 1 := by
      rcases hx with hx | ⟨_, hx⟩
      · omega
      · exact hx
    obtain ⟨g, rfl, hc2⟩ := hc (by omega)
    have k0 := (hc2 a hl).1
    have hlI : decide (L.length ≤ a) = false := by simp; omega
    have hlI2 : (a : Int) < (L.length : Int) := by omega
    have h1b : ((L[a].1 : Int) == 1) = false := by simp; omega
    clear hc hc2 h h1 hx h4
    generalize L[a] = x at *
    go_big_quiet (fail)
    go_wp2_with fail
    refine Calls.mono (END.out _) ?_
    rintro x w2 ⟨rfl, hp, hb, hf⟩
    obtain ⟨⟨d0, d1, d2⟩, e0, e1, e2⟩ := hb.three
    have HP := hide hp
    have HB := hide hb
    have HF := hide hf
    clear hp hb hf END c0 c1 c2 k0
    go_wp2_with fail
    refine bodyPost_ret (results_cell_row rfl _ _ w.heap.size 57 _ (0, 0) _ rfl (((HB.out.set 0 _).set 1 _).set 2 _) Try.underlying57 rfl sz33) rfl ?_
    have q1 := Pw.put3 (⟨HP.out, HF.out⟩ : Pw w r _ L a 4 w2) H.out w.heap.size (Nat.le_refl _) (.int .i64 0) (.string ⟨#[]⟩) (.slice none 0 0)
    exact ⟨⟨_, a, rfl, ⟨_, _, _, _, _, rfl⟩, q1.pd, by omega⟩, q1.fr⟩
  · have hlI : decide (L.length ≤ a) = true := by simp; omega
    clear hc h h1 hx
    go_big_quiet (fail)
    go_wp2_with fail
    refine Calls.mono (END.out _) ?_
    rintro x w2 ⟨rfl, hp, hb, hf⟩
    obtain ⟨⟨d0, d1, d2⟩, e0, e1, e2⟩ := hb.three
    have HP := hide hp
    have HB := hide hb
    have HF := hide hf
    clear hp hb hf END c0 c1 c2
    go_wp2_with fail
    refine bodyPost_ret (results_cell_row rfl _ _ w.heap.size 57 _ (0, 0) _ rfl (((HB.out.set 0 _).set 1 _).set 2 _) Try.underlying57 rfl sz33) rfl ?_
    have q1 := Pw.put3 (⟨HP.out, HF.out⟩ : Pw w r _ L a 4 w2) H.out w.heap.size (Nat.le_refl _) (.int .i64 0) (.string ⟨#[]⟩) (.slice none 0 0)
    exact ⟨⟨_, a, rfl, ⟨_, _, _, _, _, rfl⟩, q1.pd, by omega⟩, q1.fr⟩

end Go.Proofs.Ytdmhajeaphnebaa.Rp
namespace Go.Proofs.Ytdmhajeaphnebaa.Rp
open Go.RowKit
open Lx (Wd tx cellsW wpList_append_run)
open Vl (Tm Fr)
open Sy

theorem atomL_name {L : List Wd} {a : Nat} (hL : ∀ x ∈ L, OkW x) (hl : a < L.length) (h1 : L[a].1 = 1) :
    atomL termW (L.drop a) = if signB [40] (L.drop (a + 1)) = true then (match listL (oneL termW) 4 (L.drop (a + 2)) with
      | .error e => .error e
      | .ok (l, r) => if takeB [41] r = true then .ok ((1, tx L[a].2.1, l), r.tail) else .error false) else .ok ((1, tx L[a].2.1, []), L.drop (a + 1)) := by
  rw [sign_take hL (a + 1) [40] (by decide) rfl, atomL, drop_next L a hl, if_pos h1, drop_tail, drop_tail]
  cases takeB [40] (L.drop (a + 1)) with
  | false => rfl
  | true =>
    simp only [if_true]
    cases listL (oneL termW) 4 (L.drop (a + 2)) <;> rfl

def atOf (r : Nat) (w : World) : Nat := match w.cell? ⟨r, 1, none⟩ with
  | some (.int _ a) => a.toNat
  | _ => 0
theorem atOf_eq {w : World} {r : Nat} {v : Value} {L : List Wd} {a e : Nat} (h : Pd w r v L a e) : atOf r w = a := by
  unfold atOf
  rw [h.box.three.1.2.1]
  rfl
def eOf (r : Nat) (w : World) : Nat := match w.cell? ⟨r, 2, none⟩ with
  | some (.int _ a) => a.toNat
  | _ => 0
theorem eOf_eq {w : World} {r : Nat} {v : Value} {L : List Wd} {a e : Nat} (h : Pd w r v L a e) : eOf r w = e := by
  unfold eOf
  rw [h.box.three.1.2.2]
  rfl
/-- The measure of the loop: an error ends it at once. -/
def ms (r n : Nat) (w : World) : Nat := if eOf r w = 0 then n + 3 - atOf r w else 0
theorem ms_err {w : World} {r n : Nat} {v : Value} {L : List Wd} {a e : Nat} (h : Pd w r v L a e) (he : e ≠ 0) : ms r n w = 0 := by
  unfold ms
  rw [eOf_eq h, if_neg he]
theorem ms_ok {w : World} {r n : Nat} {v : Value} {L : List Wd} {a : Nat} (h : Pd w r v L a 0) : ms r n w = n + 3 - a := by
  unfold ms
  rw [eOf_eq h, if_pos rfl, atOf_eq h]
theorem sign_lt {L : List Wd} {a : Nat} {s : List UInt8} (h : signB s (L.drop a) = true) : a < L.length := by
  by_cases hl : a < L.length
  · exact hl
  · rw [drop_end L a (by omega)] at h
    cases h
def codeN (c : Bool) : Nat := if c = true then 8 else 4
/-- The loop over an atom's terms: what holds ahead of each round. -/
structure Lo (w : World) (r : Nat) (v : Value) (L : List Wd) (a b0 lb : Nat) (nm : ByteArray) (R : Re Sy.Lit) (W : World) (a' e : Nat) (y : Value) (n : Nat) (xs : List Value) : Prop where
  pw : Pw w r v L a' e W
  box : Bx W b0 57 #[.int .i64 0, .string ⟨#[]⟩, .slice none 0 0]
  lit : Bx W lb 57 #[.int .i64 1, .string nm, y]
  row : W.ownsRow w.heap.size 88 3 y n xs
  few : n ≤ 5
  le : a' ≤ L.length + 1
  st : (e = 0 ∧ a + 2 ≤ a' ∧ a' ≤ L.length ∧ n ≤ 4 ∧ ∃ ts : List Tm, n = ts.length ∧ xs = Vl.cellsT ts ∧ listL (oneL termW) 4 (L.drop (a + 2)) = joinR ts (listL (oneL termW) (4 - ts.length) (L.drop a'))) ∨ (∃ c, e = codeN c ∧ R = .error c)

/-- One term more: the append, and the store of the row into the literal. -/
theorem Lo_push {w : World} {r : Nat} {v : Value} {L : List Wd} {b0 lb : Nat} {nm : ByteArray} {W : World} {a0 e0 a' e : Nat} {y : Value} {n : Nat} {xs : List Value} (h0 : Pd w r v L a0 e0) (hlb : w.heap.size ≤ lb) (hne : b0 ≠ lb)
    (pw : Pw w r v L a' e W) (box : Bx W b0 57 #[.int .i64 0, .string ⟨#[]⟩, .slice none 0 0]) (lit : Bx W lb 57 #[.int .i64 1, .string nm, y]) (row : W.ownsRow w.heap.size 88 3 y n xs) (hn : n ≤ 4) (t : Tm) :
    ∃ g cap w3, (∀ ty, (Builtin.append_ #[55, 55] ty #[y, .slice (some ⟨W.heap.size, 0, none⟩) 1 1]).run Try.prog (W.alloc (.cells #[.int .i64 t.1, .string t.2.1, .int .i64 t.2.2] 88)) = .ok (.slice (some ⟨g, 0, none⟩) (n + 1) cap) w3) ∧
      (w3.cell? ⟨lb, 2, none⟩ = some y ∧ w3.frozen? ⟨lb, 2, none⟩ = false) ∧
      Hid (Pw w r v L a' e (w3.setCell ⟨lb, 2, none⟩ (.slice (some ⟨g, 0, none⟩) (n + 1) cap)) ∧ Bx (w3.setCell ⟨lb, 2, none⟩ (.slice (some ⟨g, 0, none⟩) (n + 1) cap)) b0 57 #[.int .i64 0, .string ⟨#[]⟩, .slice none 0 0] ∧ Bx (w3.setCell ⟨lb, 2, none⟩ (.slice (some ⟨g, 0, none⟩) (n + 1) cap)) lb 57 #[.int .i64 1, .string nm, .slice (some ⟨g, 0, none⟩) (n + 1) cap] ∧ (w3.setCell ⟨lb, 2, none⟩ (.slice (some ⟨g, 0, none⟩) (n + 1) cap)).ownsRow w.heap.size 88 3 (.slice (some ⟨g, 0, none⟩) (n + 1) cap) (n + 1) (xs ++ [.int .i64 t.1, .string t.2.1, .int .i64 t.2.2])) := by
  obtain ⟨g, cap, w3, hap, HO3, HF3⟩ := push_row 55 88 3 32 _ Try.underlying55 Sy.Try.info88 rfl (by decide) (by decide) row [.int .i64 t.1, .string t.2.1, .int .i64 t.2.2] rfl (by simp [Value.oneCell']) (by omega) pw.fr.size
  have hrow : ∀ k, y.ownBlock = some k → w.heap.size ≤ k := fun k hk => (row.lt k hk).1
  have hnot : ∀ {b : Nat} {T : TypeId} {cs : Array Value}, Bx W b T cs → T ≠ 88 → ¬ y.ownBlock = some b := fun {b T cs} hb hT hk => by
    rcases row.2 with ⟨rfl, _⟩ | ⟨g', cap', cur, rfl, _, hg, _⟩
    · simp [Value.ownBlock] at hk
    · simp [Value.ownBlock] at hk
      subst hk
      have := hb.symm.trans hg
      simp only [Option.some.injEq, Obj.cells.injEq] at this
      exact hT this.2.1
  have box3 := box.fr HF3.out (hnot box (by decide))
  have lit3 := lit.fr HF3.out (hnot lit (by decide))
  have hlt := h0.lt
  have pw3 : Pw w r v L a' e w3 := by
    have hf : Fr (fun k => k = r) w w3 := pw.fr.trans HF3.out (fun x hx hFx => absurd (hrow x hFx) (by omega))
    exact ⟨⟨pw.pd.box.fr HF3.out (fun hk => by have := hrow r hk; omega), h0.kept hf h0.row (by decide), pw.pd.len, pw.pd.near⟩, hf⟩
  refine ⟨g, cap, w3, hap, ⟨lit3.c 2, lit3.f 2⟩, pw3.put h0 lb 2 hlb _, box3.fr (F := fun k => k = lb) (Vl.Fr.one w3 lb 2 _) hne, lit3.set 2 _, own_put HO3.out lit3 (by decide) 2 _⟩

end Go.Proofs.Ytdmhajeaphnebaa.Rp

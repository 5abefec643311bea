/- The document's log: its list of byte slices. The document's log: records taken off its end; a record refused. The document's log: a record that is refused. The document's log: a record that is taken: what the two appends leave. -/
import Derived.Test.YtnbdkojdddplkaaDoorPart19
import Derived.Deep.RegionHeld
import Derived.Lib.QuietBelow
namespace Go.Proofs.YtnbdkojdddplkaaDoor.Wl
open Go.RowKit Dk

/-- A slice that reads as these bytes; if there are any, away from H. -/
structure SlN (w : World) (v : Value) (bs : List UInt8) (H : Nat → Prop) : Prop where
  sl : Sl w v bs
  away : 0 < bs.length → ∀ a n c, v = .slice (some a) n c → ¬ H a.block
theorem SlN.kept {w w' : World} {v : Value} {bs : List UInt8} {H : Nat → Prop} (h : SlN w v bs H) (hf : Dk.Fr H w w') : SlN w' v bs H := by
  refine ⟨?_, h.away⟩
  obtain ⟨ao, cap, hv, h1, h2, h3, h4⟩ := h.sl
  refine ⟨ao, cap, hv, h1, h2, h3, fun hp => ?_⟩
  obtain ⟨g, off, ha, hc⟩ := h4 hp
  subst ha
  have ha : ¬ H g := h.away hp ⟨g, off, none⟩ _ _ hv
  exact ⟨g, off, rfl, fun j hj => hf.cell (hc j hj) ha⟩
theorem SlN.more {w : World} {v : Value} {bs : List UInt8} {H K : Nat → Prop} (h : SlN w v bs H) (hK : ∀ k, k < w.heap.size → K k → H k) : SlN w v bs K := by
  refine ⟨h.sl, fun hp a n c e hk => h.away hp a n c e (hK _ ?_ hk)⟩
  obtain ⟨ao, cap, hv, h1, h2, h3, h4⟩ := h.sl
  obtain ⟨g, off, ha, hc⟩ := h4 hp
  rw [e, ha] at hv
  simp only [Value.slice.injEq, Option.some.injEq] at hv
  rw [hv.1]
  exact cell_lt (hc 0 hp)
/-- A list of byte slices that reads as these, away from H. -/
def Ml (w : World) (ao : Option Addr) (cap : Nat) (ds : List (List UInt8)) (H : Nat → Prop) : Prop :=
  ds.length ≤ cap ∧ cap ≤ maxLen ∧ (ao = none → cap = 0) ∧ ∃ vals : List Value, vals.length = ds.length ∧ (∀ a, ao = some a → ∃ g off, a = ⟨g, off, none⟩ ∧ (0 < ds.length → ¬ H g) ∧ ∀ (j : Nat) u, vals[j]? = some u → w.cell? ⟨g, off + j, none⟩ = some u) ∧ ∀ (j : Nat) u d, vals[j]? = some u → ds[j]? = some d → SlN w u d H
theorem Ml.kept {w w' : World} {ao : Option Addr} {cap : Nat} {ds : List (List UInt8)} {H : Nat → Prop} (h : Ml w ao cap ds H) (hf : Dk.Fr H w w') : Ml w' ao cap ds H := by
  obtain ⟨h1, h2, h3, vals, h4, h5, h6⟩ := h
  refine ⟨h1, h2, h3, vals, h4, fun a ha => ?_, fun j u d hu hd => (h6 j u d hu hd).kept hf⟩
  obtain ⟨g, off, rfl, hg, hc⟩ := h5 a ha
  refine ⟨g, off, rfl, hg, fun j u hu => hf.cell (hc j u hu) (hg ?_)⟩
  have := (List.getElem?_eq_some_iff.1 hu).1
  omega
theorem Ml.below {w w' : World} {ao : Option Addr} {cap : Nat} {ds : List (List UInt8)} {H : Nat → Prop} (h : Ml w ao cap ds H) (hb : Below w.heap.size w w') : Ml w' ao cap ds H := h.kept (Fr.of_below hb)
theorem Ml.nil (w : World) (H : Nat → Prop) : Ml w none 0 [] H := ⟨Nat.le_refl _, Nat.zero_le _, fun _ => rfl, [], rfl, fun a ha => (by cases ha), fun j u d hu => by simp at hu⟩
/-- Away from more blocks. -/
theorem Ml.more {w : World} {ao : Option Addr} {cap : Nat} {ds : List (List UInt8)} {H K : Nat → Prop} (h : Ml w ao cap ds H) (hK : ∀ k, k < w.heap.size → K k → H k) : Ml w ao cap ds K := by
  obtain ⟨h1, h2, h3, vals, h4, h5, h6⟩ := h
  refine ⟨h1, h2, h3, vals, h4, fun a ha => ?_, fun j u d hu hd => (h6 j u d hu hd).more hK⟩
  obtain ⟨g, off, rfl, hg, hc⟩ := h5 a ha
  refine ⟨g, off, rfl, fun h0 hk => hg h0 (hK g ?_ hk), hc⟩
  have hv : vals[0]? = some vals[0] := List.getElem?_eq_getElem (by omega)
  exact cell_lt (hc 0 _ hv)

theorem Ml.ones {w : World} {ds : List (List UInt8)} {H : Nat → Prop} {vals : List Value} (h4 : vals.length = ds.length) (h6 : ∀ (j : Nat) u d, vals[j]? = some u → ds[j]? = some d → SlN w u d H) : ∀ u ∈ vals, u.oneCell' = true := by
  intro u hu
  obtain ⟨j, hj, rfl⟩ := List.getElem_of_mem hu
  obtain ⟨ao, cap, e, _, _⟩ := (h6 j _ ds[j] (List.getElem?_eq_getElem hj) (List.getElem?_eq_getElem (by omega))).sl.shape
  rw [e]
  rfl

/-- append of such values onto nothing. -/
theorem run_append_vals (W : World) (a : Addr) (c : Nat) (vs : List Value) (hc : ∀ (j : Nat) u, vs[j]? = some u → W.cell? (a.add j) = some u) (h1 : ∀ u ∈ vs, u.oneCell' = true) (hl : vs.length ≤ 1000) :
    ∃ ao L cap W', (∀ ty, (Builtin.append_ #[30, 30] ty #[.slice none 0 0, .slice (some a) vs.length c]).run Tryd.prog W = .ok (.slice ao L cap) W') ∧ W'.ownsRow W.heap.size 33 1 (.slice ao L cap) vs.length vs ∧ Below W.heap.size W W' := by
  obtain ⟨i, hi, hz0, hz1, hz2⟩ := info_parts Fr.Tryd.info33
  have H := fun ty => run_append_own_at (P := Tryd.prog) W W.heap.size 30 ty 33 i (.slice none 0 0) 1 24 Tryd.underlying30 hi hz0 hz1 hz2 rfl (by decide) (.slice none 0 0) 0 [] (World.ownsRow_nil _ _ _ _) a vs.length c vs (by rw [Nat.mul_one]) hc h1 (by simp only [maxLen]; omega) (by omega) (Nat.le_refl _)
  obtain ⟨v', W', hr, g1, g2, _, _⟩ := H 0
  obtain ⟨ao', L', cap', rfl⟩ := own_slice g1
  exact ⟨ao', L', cap', W', fun _ => hr, by simpa using g1, (Below.refl _ _).grown g2 (Nat.le_refl _) (fun k hk => by simp [Value.ownBlock] at hk)⟩
/-- A row of one's own is such a list. -/
theorem Ml.of_own {w : World} {B : Nat} {ao : Option Addr} {L cap : Nat} {vs : List Value} {ds : List (List UInt8)} {H : Nat → Prop} (hO : w.ownsRow B 33 1 (.slice ao L cap) vs.length vs) (hl : vs.length = ds.length) (hH : ∀ k, H k → k < B) (h6 : ∀ (j : Nat) u d, vs[j]? = some u → ds[j]? = some d → SlN w u d H) : L = ds.length ∧ Ml w ao cap ds H := by
  rcases own_shape hO with ⟨e, e0⟩ | ⟨g, cap', e, e1, e2, e3⟩
  · simp only [Value.slice.injEq] at e
    obtain ⟨rfl, rfl, rfl⟩ := e
    exact ⟨by omega, by omega, Nat.zero_le _, fun _ => rfl, vs, hl, fun a ha => (by cases ha), h6⟩
  · simp only [Value.slice.injEq] at e
    obtain ⟨rfl, rfl, rfl⟩ := e
    refine ⟨by omega, by omega, e2, fun h => (by cases h), vs, hl, fun a ha => ?_, h6⟩
    simp only [Option.some.injEq] at ha
    subst ha
    refine ⟨g, 0, rfl, fun _ hk => ?_, fun j u hu => ?_⟩
    · have h1 := hH g hk
      have h2 := (hO.lt g rfl).1
      omega
    · rw [Nat.zero_add, hO.cellAt j (by have := (List.getElem?_eq_some_iff.1 hu).1; omega)]
      exact hu

theorem Ml.less {w : World} {ao : Option Addr} {cap : Nat} {ds : List (List UInt8)} {H : Nat → Prop} (h : Ml w ao cap ds H) (k : Nat) (hk : k < ds.length) : Ml w ao k (ds.take k) H := by
  obtain ⟨h1, h2, h3, vals, h4, h5, h6⟩ := h
  refine ⟨by rw [List.length_take]; omega, by omega, fun e => by have := h3 e; omega, vals.take k, by rw [List.length_take, List.length_take, h4], fun a ha => ?_, fun j u d hu hd => ?_⟩
  · obtain ⟨g, off, rfl, hg, hc⟩ := h5 a ha
    refine ⟨g, off, rfl, fun _ => hg (by omega), fun j u hu => hc j u ?_⟩
    rw [List.getElem?_take] at hu
    split at hu
    · exact hu
    · cases hu
  · rw [List.getElem?_take] at hu hd
    split at hu
    · rename_i hj
      rw [if_pos hj] at hd
      exact h6 j u d hu hd
    · cases hu
theorem Ml.at {w : World} {ao : Option Addr} {cap : Nat} {ds : List (List UInt8)} {H : Nat → Prop} (h : Ml w ao cap ds H) (k : Nat) (hk : k < ds.length) : ∃ g off aod capd, ao = some ⟨g, off, none⟩ ∧ w.cell? ⟨g, off + k, none⟩ = some (.slice aod ds[k].length capd) ∧ Sl w (.slice aod ds[k].length capd) ds[k] := by
  obtain ⟨h1, h2, h3, vals, h4, h5, h6⟩ := h
  cases ao with
  | none => have := h3 rfl; omega
  | some a =>
    obtain ⟨g, off, rfl, _, hc⟩ := h5 a rfl
    have hv : vals[k]? = some vals[k] := List.getElem?_eq_getElem (by omega)
    have hs := (h6 k _ ds[k] hv (List.getElem?_eq_getElem hk)).sl
    obtain ⟨aod, capd, e, _, _⟩ := hs.shape
    rw [e] at hs hv
    exact ⟨g, off, aod, capd, rfl, hc k _ hv, hs⟩
/-- The three blocks that model.do lays. -/
def Bx (u : World) (B : Nat) (mf : Int) (v : Value) (kd n : Int) (bv : Value) : Prop := u.heap[B]? = some (.cells #[.int .i64 mf, v] 32 (0, 0)) ∧ u.heap[B + 1]? = some (.cells #[.int .i64 kd, .int .i64 n, bv] 35 (0, 0)) ∧ u.heap[B + 2]? = some (.cells #[.int .i64 0, .slice none 0 0] 32 (0, 0))
theorem Bx.kept {u u' : World} {B : Nat} {mf : Int} {v : Value} {kd n : Int} {bv : Value} (h : Bx u B mf v kd n bv) (hb : ∀ k, k < B + 3 → u'.heap[k]? = u.heap[k]?) : Bx u' B mf v kd n bv :=
  ⟨by rw [hb _ (by omega)]; exact h.1, by rw [hb _ (by omega)]; exact h.2.1, by rw [hb _ (by omega)]; exact h.2.2⟩
theorem Bx.of (w : World) (mf : Int) (v : Value) (kd n : Int) (bv : Value) : Bx (((w.alloc (.cells #[.int .i64 mf, v] 32)).alloc (.cells #[.int .i64 kd, .int .i64 n, bv] 35)).alloc (.cells #[.int .i64 0, .slice none 0 0] 32)) w.heap.size mf v kd n bv := boxes3 w _ _ _
/-- Its cells. -/
def Bc (u : World) (B : Nat) (mf : Int) (v : Value) (kd n : Int) (bv : Value) : Prop := u.cell? ⟨B, 0, none⟩ = some (.int .i64 mf) ∧ u.cell? ⟨B, 1, none⟩ = some v ∧ u.cell? ⟨B + 1, 0, none⟩ = some (.int .i64 kd) ∧ u.cell? ⟨B + 1, 1, none⟩ = some (.int .i64 n) ∧ u.cell? ⟨B + 1, 2, none⟩ = some bv ∧
  u.cell? ⟨B + 2, 0, none⟩ = some (.int .i64 0) ∧ u.cell? ⟨B + 2, 1, none⟩ = some (.slice none 0 0) ∧ (∀ j, u.frozen? ⟨B, j, none⟩ = false) ∧ ∀ j, u.frozen? ⟨B + 2, j, none⟩ = false
theorem Bx.cells {u : World} {B : Nat} {mf : Int} {v : Value} {kd n : Int} {bv : Value} (h : Bx u B mf v kd n bv) : Bc u B mf v kd n bv := by
  obtain ⟨h1, h2, h3⟩ := h
  refine ⟨?_, ?_, ?_, ?_, ?_, ?_, ?_, fun j => by simp [World.frozen?, h1], fun j => by simp [World.frozen?, h3]⟩
  · rw [cell_of_row u _ 0 _ _ _ h1]; rfl
  · rw [cell_of_row u _ 1 _ _ _ h1]; rfl
  · rw [cell_of_row u _ 0 _ _ _ h2]; rfl
  · rw [cell_of_row u _ 1 _ _ _ h2]; rfl
  · rw [cell_of_row u _ 2 _ _ _ h2]; rfl
  · rw [cell_of_row u _ 0 _ _ _ h3]; rfl
  · rw [cell_of_row u _ 1 _ _ _ h3]; rfl
/-- What is left behind the last stores. -/
def fin4 (u : World) (B : Nat) (mf : Int) (v : Value) : World := (((u.setCell ⟨B, 1, none⟩ v).setCell ⟨B, 0, none⟩ (.int .i64 mf)).setCell ⟨B + 1 + 1, 0, none⟩ (.int .i64 mf)).setCell ⟨B + 1 + 1, 1, none⟩ v
def fin3 (u : World) (B : Nat) (mf : Int) (v : Value) : World := ((u.setCell ⟨B, 1, none⟩ v).setCell ⟨B + 1 + 1, 0, none⟩ (.int .i64 mf)).setCell ⟨B + 1 + 1, 1, none⟩ v
theorem set_first {w : World} {B T : Nat} {v u x : Value} (h : w.heap[B]? = some (.cells #[v, u] T (0, 0))) : (w.setCell ⟨B, 0, none⟩ x).heap[B]? = some (.cells #[x, u] T (0, 0)) := by
  rw [Dk.heap_set h]; rfl
theorem set_second {w : World} {B T : Nat} {v u x : Value} (h : w.heap[B]? = some (.cells #[v, u] T (0, 0))) : (w.setCell ⟨B, 1, none⟩ x).heap[B]? = some (.cells #[v, x] T (0, 0)) := by
  rw [Dk.heap_set h]; rfl
theorem Bx.fin4 {u : World} {B : Nat} {mf : Int} {v : Value} {kd n : Int} {bv : Value} (h : Bx u B mf v kd n bv) (mf' : Int) (v' : Value) : (Wl.fin4 u B mf' v').heap[B + 1 + 1]? = some (.cells #[.int .i64 mf', v'] 32 (0, 0)) := by
  refine set_second (v := .int .i64 mf') (u := .slice none 0 0) (set_first (v := .int .i64 0) ?_)
  rw [Below.heap_setCell _ _ _ _ (by show B + 1 + 1 ≠ B; omega), Below.heap_setCell _ _ _ _ (by show B + 1 + 1 ≠ B; omega)]
  exact h.2.2
theorem Bx.fin3 {u : World} {B : Nat} {mf : Int} {v : Value} {kd n : Int} {bv : Value} (h : Bx u B mf v kd n bv) (mf' : Int) (v' : Value) : (Wl.fin3 u B mf' v').heap[B + 1 + 1]? = some (.cells #[.int .i64 mf', v'] 32 (0, 0)) := by
  refine set_second (v := .int .i64 mf') (u := .slice none 0 0) (set_first (v := .int .i64 0) ?_)
  rw [Below.heap_setCell _ _ _ _ (by show B + 1 + 1 ≠ B; omega)]
  exact h.2.2
theorem fin4_fr (u : World) (B : Nat) (mf : Int) (v : Value) (K : Nat → Prop) (hK : ∀ k, B ≤ k → k < B + 3 → K k) : Dk.Fr K u (fin4 u B mf v) :=
  Fr.setCell (Fr.setCell (Fr.setCell (Fr.setCell (Fr.refl K u) (fun _ => hK _ (Nat.le_refl _) (by show B < B + 3; omega)) _) (fun _ => hK _ (Nat.le_refl _) (by show B < B + 3; omega)) _) (fun _ => hK _ (by show B ≤ B + 1 + 1; omega) (by show B + 1 + 1 < B + 3; omega)) _) (fun _ => hK _ (by show B ≤ B + 1 + 1; omega) (by show B + 1 + 1 < B + 3; omega)) _
theorem fin3_fr (u : World) (B : Nat) (mf : Int) (v : Value) (K : Nat → Prop) (hK : ∀ k, B ≤ k → k < B + 3 → K k) : Dk.Fr K u (fin3 u B mf v) :=
  Fr.setCell (Fr.setCell (Fr.setCell (Fr.refl K u) (fun _ => hK _ (Nat.le_refl _) (by show B < B + 3; omega)) _) (fun _ => hK _ (by show B ≤ B + 1 + 1; omega) (by show B + 1 + 1 < B + 3; omega)) _) (fun _ => hK _ (by show B ≤ B + 1 + 1; omega) (by show B + 1 + 1 < B + 3; omega)) _
theorem fin4_below {u w : World} (mf : Int) (v : Value) (h : Below w.heap.size w u) : Below w.heap.size w (fin4 u w.heap.size mf v) :=
  (((h.setCell (Nat.le_refl _) _).setCell (Nat.le_refl _) _).setCell (by show w.heap.size ≤ w.heap.size + 1 + 1; omega) _).setCell (by show w.heap.size ≤ w.heap.size + 1 + 1; omega) _
theorem fin3_below {u w : World} (mf : Int) (v : Value) (h : Below w.heap.size w u) : Below w.heap.size w (fin3 u w.heap.size mf v) :=
  ((h.setCell (Nat.le_refl _) _).setCell (by show w.heap.size ≤ w.heap.size + 1 + 1; omega) _).setCell (by show w.heap.size ≤ w.heap.size + 1 + 1; omega) _
/-- The list, read off behind the stores: away from the three blocks, it stays. -/
theorem Ml.fin {u U : World} {B : Nat} {ao : Option Addr} {cap : Nat} {ds : List (List UInt8)} {H : Nat → Prop} (h : Ml u ao cap ds (fun k => H k ∨ (B ≤ k ∧ k < B + 3))) (hf : Dk.Fr (fun k => H k ∨ (B ≤ k ∧ k < B + 3)) u U) : Ml U ao cap ds H := (h.kept hf).more (fun _ _ hk => Or.inl hk)
end Go.Proofs.YtnbdkojdddplkaaDoor.Wl
namespace Go.Proofs.YtnbdkojdddplkaaDoor.Wl
open Go.RowKit Dk

/-- The last number, asked for in the midst of model.do. -/
theorem last_in {X : World} (B : Nat) (mf : Int) (ao : Option Addr) (L cap : Nat) (kd n : Int) (bv : Value) (hB : Bx X B mf (.slice ao L cap) kd n bv) (hs : B + 3 ≤ X.heap.size) (h0 : 0 ≤ mf) (h1 : mf + L ≤ 2251799813685248) (hL : 0 < L ∧ L ≤ 1000) :
    ∀ u, Hid (Below X.heap.size X u) → Calls Tryd.prog 30 #[.agg #[.int .i64 mf, .slice ao L cap]] u fun e w' => e = .returned (.int .i64 (mf + L - 1)) ∧ Bc w' B mf (.slice ao L cap) kd n bv ∧ Hid (Below X.heap.size X w') := by
  intro u hb
  refine (last_md mf ao L cap u (by omega) (by omega) (by omega)).mono ?_
  rintro e w' ⟨rfl, hb'⟩
  have hb2 := hb.out.trans (hb'.mono hb.out.size)
  exact ⟨by rw [if_neg (by omega)], (hB.kept (fun k hk => hb2.block k (by omega))).cells, hb2⟩

set_option maxHeartbeats 4000000 in
set_option maxRecDepth 20000 in
/-- From: all but the first k go. -/
theorem do_from_some (mf n : Int) (ao0 aob : Option Addr) (cap0 Lb capb : Nat) (ds : List (List UInt8)) (H : Nat → Prop) (k : Nat) (w : World) (hM : Ml w ao0 cap0 ds H) (hl : ds.length ≤ 100) (hmf : 0 ≤ mf ∧ mf + ds.length ≤ 2251799813685248) (hn : 1 ≤ n) (hp : 0 < ds.length) (hn2 : n ≤ mf + ds.length - 1) (hk : k = (n - mf).toNat) :
    Calls Tryd.prog 13 #[.agg #[.int .i64 mf, .slice ao0 ds.length cap0], .agg #[.int .i64 1, .int .i64 n, .slice aob Lb capb]] w fun e w' => ∃ ao cap, e = .returned (.tuple #[.agg #[.int .i64 mf, .slice ao (ds.take k).length cap], .int .i64 0]) ∧ Hid (Ml w' ao cap (ds.take k) H ∧ Below w.heap.size w w') := by
  have hkd : k < ds.length := by omega
  have hlt : (ds.take k).length = k := by rw [List.length_take]; omega
  obtain ⟨m1, m2, m3, _⟩ := id hM
  have hML := hM.less k hkd
  rw [hlt]
  obtain ⟨X, HXe⟩ : ∃ X, Hid (X = ((w.alloc (.cells #[.int .i64 mf, .slice ao0 ds.length cap0] 32)).alloc (.cells #[.int .i64 1, .int .i64 n, .slice aob Lb capb] 35)).alloc (.cells #[.int .i64 0, .slice none 0 0] 32)) := ⟨_, (rfl : _ = ((w.alloc (.cells #[.int .i64 mf, .slice ao0 ds.length cap0] 32)).alloc (.cells #[.int .i64 1, .int .i64 n, .slice aob Lb capb] 35)).alloc (.cells #[.int .i64 0, .slice none 0 0] 32))⟩
  have hbX : Below w.heap.size w X := by rw [HXe.out]; exact below3 _ _ _ _
  have hsX : X.heap.size = w.heap.size + 3 := by rw [HXe.out]; simp
  have hBx : Bx X w.heap.size mf (.slice ao0 ds.length cap0) 1 n (.slice aob Lb capb) := by rw [HXe.out]; exact Bx.of _ _ _ _ _ _
  have HMd : Hid (_) := last_in w.heap.size mf ao0 ds.length cap0 1 n (.slice aob Lb capb) hBx (by omega) hmf.1 hmf.2 ⟨hp, by omega⟩
  have HEd : Hid (Below X.heap.size X X.drew) := (Below.refl _ _).drew
  have HFin : Hid (∀ u, Hid (Below X.heap.size X u) → (fin3 u w.heap.size mf (.slice ao0 k k)).heap[w.heap.size + 1 + 1]? = some (.cells #[.int .i64 mf, .slice ao0 k k] 32 (0, 0)) ∧ Hid (Ml (fin3 u w.heap.size mf (.slice ao0 k k)) ao0 k (ds.take k) H ∧ Below w.heap.size w (fin3 u w.heap.size mf (.slice ao0 k k)))) := by
    intro u hu
    have hbu : Below w.heap.size w u := hbX.trans (hu.out.mono hbX.size)
    refine ⟨(hBx.kept (fun j hj => hu.out.block j (by omega))).fin3 _ _, Ml.fin (B := w.heap.size) (u := u) ?_ (fin3_fr _ _ _ _ _ (fun j h1 h2 => Or.inr ⟨h1, h2⟩)), fin3_below _ _ hbu⟩
    refine (hML.more (K := fun j => H j ∨ (w.heap.size ≤ j ∧ j < w.heap.size + 3)) (fun j hj hK => ?_)).kept (Fr.of_below hbu)
    rcases hK with hK | hK
    · exact hK
    · omega
  obtain ⟨c0, c1, c2, c3, c6, c4, c5, z0, z4⟩ := hBx.cells
  have hb0 : (0 : Int) < (ds.length : Int) := by omega
  have hcm : cap0 ≤ 9223372036854775807 := m2
  have hkc : (k : Int) ≤ (cap0 : Int) := by omega
  have hn1 : ¬ n < 1 := by omega
  have hwr : IntKind.i64.wrap (n - mf) = n - mf := by rw [IntKind.wrap_i64]; omega
  clear hM hML hBx hbX m1 m2 m3 hlt hsX
  by_cases hpos : 0 < n - mf
  · have hkn : n - mf = (k : Int) := by omega
    clear hk
    go_enter Tryd.func13, Tryd.ntmps13
    go_wp2_with fail
    rw [← HXe.out]
    go_region_held (fun w' => w'.cell? ⟨w.heap.size, 0, none⟩ = some (.int .i64 mf) ∧ w'.cell? ⟨w.heap.size, 1, none⟩ = some (.slice ao0 ds.length cap0) ∧ w'.cell? ⟨w.heap.size + 1, 1, none⟩ = some (.int .i64 n))
      (first | exact ⟨c0, c1, c3⟩)
      (first
        | (go_at_call 30; refine (HMd.out _ HEd).mono ?_; rintro e w6 ⟨rfl, ⟨c0, c1, c2, c3, c6, c4, c5, z0, z4⟩, HEd⟩))
    have HF : Hid (_) := HFin.out _ HEd
    clear HFin HMd
    go_wp2_with fail
    exact bodyPost_ret (results_ct rfl _ _ (w.heap.size + 1 + 1) 32 _ (0, 0) _ rfl HF.out.1 Tryd.underlying32 rfl Tryd.sz32) rfl ⟨ao0, k, rfl, HF.out.2⟩
  · obtain rfl : k = 0 := by omega
    have hpos' : n - mf ≤ 0 := by omega
    clear hk hkc
    go_enter Tryd.func13, Tryd.ntmps13
    go_wp2_with fail
    rw [← HXe.out]
    go_region_held (fun w' => w'.cell? ⟨w.heap.size, 0, none⟩ = some (.int .i64 mf) ∧ w'.cell? ⟨w.heap.size, 1, none⟩ = some (.slice ao0 ds.length cap0) ∧ w'.cell? ⟨w.heap.size + 1, 1, none⟩ = some (.int .i64 n))
      (first | exact ⟨c0, c1, c3⟩)
      (first
        | (go_at_call 30; refine (HMd.out _ HEd).mono ?_; rintro e w6 ⟨rfl, ⟨c0, c1, c2, c3, c6, c4, c5, z0, z4⟩, HEd⟩))
    have HF : Hid (_) := HFin.out _ HEd
    clear HFin HMd
    go_wp2_with fail
    exact bodyPost_ret (results_ct rfl _ _ (w.heap.size + 1 + 1) 32 _ (0, 0) _ rfl HF.out.1 Tryd.underlying32 rfl Tryd.sz32) rfl ⟨ao0, 0, rfl, HF.out.2⟩

/-- What do leaves where it changes nothing. -/
def fin2 (u : World) (B : Nat) (mf : Int) (v : Value) : World := (u.setCell ⟨B + 1 + 1, 0, none⟩ (.int .i64 mf)).setCell ⟨B + 1 + 1, 1, none⟩ v
theorem Bx.fin2 {u : World} {B : Nat} {mf : Int} {v : Value} {kd n : Int} {bv : Value} (h : Bx u B mf v kd n bv) (mf' : Int) (v' : Value) : (Wl.fin2 u B mf' v').heap[B + 1 + 1]? = some (.cells #[.int .i64 mf', v'] 32 (0, 0)) :=
  set_second (v := .int .i64 mf') (u := .slice none 0 0) (set_first (v := .int .i64 0) h.2.2)
theorem fin2_below {u w : World} (mf : Int) (v : Value) (h : Below w.heap.size w u) : Below w.heap.size w (fin2 u w.heap.size mf v) :=
  (h.setCell (by show w.heap.size ≤ w.heap.size + 1 + 1; omega) _).setCell (by show w.heap.size ≤ w.heap.size + 1 + 1; omega) _

set_option maxHeartbeats 4000000 in
set_option maxRecDepth 20000 in
theorem do_from_none (mf n : Int) (ao0 aob : Option Addr) (L0 cap0 Lb capb : Nat) (w : World) (hl : L0 ≤ 100) (hmf : 0 ≤ mf ∧ mf + L0 ≤ 2251799813685248) (hn : 1 ≤ n) (h : L0 = 0 ∨ mf + L0 - 1 < n) :
    Calls Tryd.prog 13 #[.agg #[.int .i64 mf, .slice ao0 L0 cap0], .agg #[.int .i64 1, .int .i64 n, .slice aob Lb capb]] w fun e w' => e = .returned (.tuple #[.agg #[.int .i64 mf, .slice ao0 L0 cap0], .int .i64 0]) ∧ Below w.heap.size w w' := by
  obtain ⟨X, HXe⟩ : ∃ X, Hid (X = ((w.alloc (.cells #[.int .i64 mf, .slice ao0 L0 cap0] 32)).alloc (.cells #[.int .i64 1, .int .i64 n, .slice aob Lb capb] 35)).alloc (.cells #[.int .i64 0, .slice none 0 0] 32)) := ⟨_, (rfl : _ = ((w.alloc (.cells #[.int .i64 mf, .slice ao0 L0 cap0] 32)).alloc (.cells #[.int .i64 1, .int .i64 n, .slice aob Lb capb] 35)).alloc (.cells #[.int .i64 0, .slice none 0 0] 32))⟩
  have hbX : Below w.heap.size w X := by rw [HXe.out]; exact below3 _ _ _ _
  have hsX : X.heap.size = w.heap.size + 3 := by rw [HXe.out]; simp
  have hBx : Bx X w.heap.size mf (.slice ao0 L0 cap0) 1 n (.slice aob Lb capb) := by rw [HXe.out]; exact Bx.of _ _ _ _ _ _
  have HEd : Hid (Below X.heap.size X X.drew) := (Below.refl _ _).drew
  have HFin : Hid (∀ u, Hid (Below X.heap.size X u) → (fin2 u w.heap.size mf (.slice ao0 L0 cap0)).heap[w.heap.size + 1 + 1]? = some (.cells #[.int .i64 mf, .slice ao0 L0 cap0] 32 (0, 0)) ∧ Hid (Below w.heap.size w (fin2 u w.heap.size mf (.slice ao0 L0 cap0)))) := by
    intro u hu
    exact ⟨(hBx.kept (fun j hj => hu.out.block j (by omega))).fin2 _ _, fin2_below _ _ (hbX.trans (hu.out.mono hbX.size))⟩
  obtain ⟨c0, c1, c2, c3, c6, c4, c5, z0, z4⟩ := hBx.cells
  have hn1 : ¬ n < 1 := by omega
  by_cases hz : L0 = 0
  · subst hz
    have HBx : Hid (∀ u, Below X.heap.size X u → Bc u w.heap.size mf (.slice ao0 0 cap0) 1 n (.slice aob Lb capb)) := fun u hu => (hBx.kept (fun j hj => hu.block j (by omega))).cells
    clear hBx hbX hsX
    go_enter Tryd.func13, Tryd.ntmps13
    go_wp2_with fail
    rw [← HXe.out]
    have k1 : ∀ d os, (Sort.grow (redrawn X d) os).cell? ⟨w.heap.size, 1, none⟩ = some (.slice ao0 0 cap0) := fun d os => cell_regrown c1 d os
    refine wp_region_quiet_below (by kernel_rfl) (by kernel_rfl) ?_
    repeat (quiet_step (fail))
    refine wpQuiet_nil ?_
    intro _ hw'
    obtain ⟨⟨dq, osq⟩, hw''⟩ := hw'
    subst hw''
    obtain ⟨c0, c1, c2, c3, c6, c4, c5, z0, z4⟩ := HBx.out _ (below_regrown X dq osq)
    have HF : Hid (_) := HFin.out _ (below_regrown X dq osq)
    clear HFin k1 HBx
    generalize Sort.grow (redrawn X dq) osq = w6 at *
    go_wp2_with fail
    exact bodyPost_ret (results_ct rfl _ _ (w.heap.size + 1 + 1) 32 _ (0, 0) _ rfl HF.out.1 Tryd.underlying32 rfl Tryd.sz32) rfl ⟨rfl, HF.out.2⟩
  · have HMd : Hid (_) := last_in w.heap.size mf ao0 L0 cap0 1 n (.slice aob Lb capb) hBx (by omega) hmf.1 hmf.2 ⟨by omega, by omega⟩
    have hp : 0 < L0 := by omega
    have hb0 : (0 : Int) < (L0 : Int) := by omega
    have hgt : ¬ n ≤ mf + (L0 : Int) - 1 := by omega
    clear hBx hbX hsX h hz
    go_enter Tryd.func13, Tryd.ntmps13
    go_wp2_with fail
    rw [← HXe.out]
    go_region_held (fun w' => w'.cell? ⟨w.heap.size, 0, none⟩ = some (.int .i64 mf) ∧ w'.cell? ⟨w.heap.size, 1, none⟩ = some (.slice ao0 L0 cap0) ∧ w'.cell? ⟨w.heap.size + 1, 1, none⟩ = some (.int .i64 n))
      (first | exact ⟨c0, c1, c3⟩)
      (first
        | (go_at_call 30; refine (HMd.out _ HEd).mono ?_; rintro e w6 ⟨rfl, ⟨c0, c1, c2, c3, c6, c4, c5, z0, z4⟩, HEd⟩))
    have HF : Hid (_) := HFin.out _ HEd
    clear HFin HMd
    go_wp2_with fail
    exact bodyPost_ret (results_ct rfl _ _ (w.heap.size + 1 + 1) 32 _ (0, 0) _ rfl HF.out.1 Tryd.underlying32 rfl Tryd.sz32) rfl ⟨rfl, HF.out.2⟩
end Go.Proofs.YtnbdkojdddplkaaDoor.Wl
namespace Go.Proofs.YtnbdkojdddplkaaDoor.Wl
open Go.RowKit Dk

set_option maxHeartbeats 4000000 in
set_option maxRecDepth 20000 in
theorem do_app_no (mf n : Int) (ao0 aob : Option Addr) (L0 cap0 Lb capb : Nat) (w : World) (hl : L0 ≤ 100) (hmf : 0 ≤ mf ∧ mf + L0 ≤ 2251799813685248) (hn0 : -9223372036854775808 ≤ n) (hn1 : n ≤ 2251799813685248) (h : n < 1 ∨ (0 < L0 ∧ n - 1 ≠ mf + L0 - 1)) :
    Calls Tryd.prog 13 #[.agg #[.int .i64 mf, .slice ao0 L0 cap0], .agg #[.int .i64 0, .int .i64 n, .slice aob Lb capb]] w fun e w' => e = .returned (.tuple #[.agg #[.int .i64 mf, .slice ao0 L0 cap0], .int .i64 1]) ∧ Below w.heap.size w w' := by
  obtain ⟨X, HXe⟩ : ∃ X, Hid (X = ((w.alloc (.cells #[.int .i64 mf, .slice ao0 L0 cap0] 32)).alloc (.cells #[.int .i64 0, .int .i64 n, .slice aob Lb capb] 35)).alloc (.cells #[.int .i64 0, .slice none 0 0] 32)) := ⟨_, (rfl : _ = ((w.alloc (.cells #[.int .i64 mf, .slice ao0 L0 cap0] 32)).alloc (.cells #[.int .i64 0, .int .i64 n, .slice aob Lb capb] 35)).alloc (.cells #[.int .i64 0, .slice none 0 0] 32))⟩
  have hbX : Below w.heap.size w X := by rw [HXe.out]; exact below3 _ _ _ _
  have hsX : X.heap.size = w.heap.size + 3 := by rw [HXe.out]; simp
  have hBx : Bx X w.heap.size mf (.slice ao0 L0 cap0) 0 n (.slice aob Lb capb) := by rw [HXe.out]; exact Bx.of _ _ _ _ _ _
  have HEd : Hid (Below X.heap.size X X.drew) := (Below.refl _ _).drew
  have HFin : Hid (∀ u, Hid (Below X.heap.size X u) → (fin2 u w.heap.size mf (.slice ao0 L0 cap0)).heap[w.heap.size + 1 + 1]? = some (.cells #[.int .i64 mf, .slice ao0 L0 cap0] 32 (0, 0)) ∧ Hid (Below w.heap.size w (fin2 u w.heap.size mf (.slice ao0 L0 cap0)))) := by
    intro u hu
    exact ⟨(hBx.kept (fun j hj => hu.out.block j (by omega))).fin2 _ _, fin2_below _ _ (hbX.trans (hu.out.mono hbX.size))⟩
  obtain ⟨c0, c1, c2, c3, c6, c4, c5, z0, z4⟩ := hBx.cells
  by_cases hz : n < 1
  · have HBx : Hid (∀ u, Below X.heap.size X u → Bc u w.heap.size mf (.slice ao0 L0 cap0) 0 n (.slice aob Lb capb)) := fun u hu => (hBx.kept (fun j hj => hu.block j (by omega))).cells
    clear hBx hbX hsX h
    go_enter Tryd.func13, Tryd.ntmps13
    go_wp2_with fail
    rw [← HXe.out]
    have g1 : decide (n < 1) = true := by simpa using hz
    go_quiet (fail)
    obtain ⟨c0, c1, c2, c3, c6, c4, c5, z0, z4⟩ := HBx.out _ (below_drew X nq)
    have HF : Hid (_) := HFin.out _ (below_drew X nq)
    clear HFin HBx g1
    generalize X.drewN nq = w6 at *
    go_wp2_with fail
    exact bodyPost_ret (results_ct rfl _ _ (w.heap.size + 1 + 1) 32 _ (0, 0) _ rfl HF.out.1 Tryd.underlying32 rfl Tryd.sz32) rfl ⟨rfl, HF.out.2⟩
  · have hp : 0 < L0 := by omega
    have hne : ¬ n - 1 = mf + (L0 : Int) - 1 := by omega
    have HMd : Hid (_) := last_in w.heap.size mf ao0 L0 cap0 0 n (.slice aob Lb capb) hBx (by omega) hmf.1 hmf.2 ⟨by omega, by omega⟩
    have hb0 : (0 : Int) < (L0 : Int) := by omega
    have hwr : IntKind.i64.wrap (n - 1) = n - 1 := by rw [IntKind.wrap_i64]; omega
    clear hBx hbX hsX h
    go_enter Tryd.func13, Tryd.ntmps13
    go_wp2_with fail
    rw [← HXe.out]
    have g1 : decide (n < 1) = false := by simpa using hz
    have g2 : decide (n - 1 = mf + (L0 : Int) - 1) = false := by simpa using hne
    go_region_held (fun w' => w'.cell? ⟨w.heap.size, 0, none⟩ = some (.int .i64 mf) ∧ w'.cell? ⟨w.heap.size, 1, none⟩ = some (.slice ao0 L0 cap0) ∧ w'.cell? ⟨w.heap.size + 1, 1, none⟩ = some (.int .i64 n))
      (first | exact ⟨c0, c1, c3⟩)
      (first
        | (go_at_call 30; refine (HMd.out _ HEd).mono ?_; rintro e w6 ⟨rfl, ⟨c0, c1, c2, c3, c6, c4, c5, z0, z4⟩, HEd⟩))
    have HF : Hid (_) := HFin.out _ HEd
    clear HFin HMd
    go_wp2_with fail
    exact bodyPost_ret (results_ct rfl _ _ (w.heap.size + 1 + 1) 32 _ (0, 0) _ rfl HF.out.1 Tryd.underlying32 rfl Tryd.sz32) rfl ⟨rfl, HF.out.2⟩
end Go.Proofs.YtnbdkojdddplkaaDoor.Wl
namespace Go.Proofs.YtnbdkojdddplkaaDoor.Wl
open Go.RowKit Dk

theorem step_append_at {P : Program} {ops : Array Oper} {o : Oper} {a : Act} {w w0 : World} {K : Act → World → Prop} {Q : Exit → Act → World → Prop} {E : Prop} (hw : w = w0)
    (hg : o.guard = none) (d x : Operand) (dT sT : TypeId) (hop : o.op = Op.call { callee := Callee.builtin Builtin.append, args := #[d, x], argTypes := #[dT, sT] })
    (v u : Value) (hd : a.eval d = v) (hx : a.eval x = u) {v' : Value} {w' : World} (hr : (Builtin.append_ #[dT, sT] o.type #[v, u]).run P w0 = .ok v' w') (hK : K (a.put o.dst v') w') :
    if Region.wanted o (yielded ops a.tmps) = true then Oper.wp P o a w K Q else E := by
  subst hw
  exact step_append_run hg d x dT sT hop v u hd hx hr hK

theorem run_append_two_none (U : World) (ty : TypeId) : (Builtin.append_ #[30, 30] ty #[.slice none 0 0, .slice none 0 0]).run Tryd.prog U = .ok (.slice none 0 0) U := by kernel_rfl

theorem own_low {w : World} {base base' e size n : Nat} {v : Value} {xs : List Value} (h : w.ownsRow base e size v n xs) (hb : base' ≤ base) : w.ownsRow base' e size v n xs :=
  ⟨h.1, h.2.imp id fun ⟨g, cap, cur, e1, e2, e3⟩ => ⟨g, cap, cur, e1, Nat.le_trans hb e2, e3⟩⟩

/-- The first append: the list, copied. -/
theorem app_first {w : World} {ao0 : Option Addr} {cap0 : Nat} {ds : List (List UInt8)} {H : Nat → Prop} (hM : Ml w ao0 cap0 ds H) (hl : ds.length ≤ 100) :
    ∃ vals : List Value, vals.length = ds.length ∧ (∀ (j : Nat) x d, vals[j]? = some x → ds[j]? = some d → SlN w x d H) ∧ ∀ (u U : World), Below w.heap.size w u → Below u.heap.size u U → ∃ ao6 L6 cap6 u6, (∀ ty, (Builtin.append_ #[30, 30] ty #[.slice none 0 0, .slice ao0 ds.length cap0]).run Tryd.prog U = .ok (.slice ao6 L6 cap6) u6) ∧ Hid (Below u.heap.size u u6) ∧ Hid (Below U.heap.size U u6 ∧ u6.ownsRow u.heap.size 33 1 (.slice ao6 L6 cap6) vals.length vals) := by
  obtain ⟨m1, m2, m3, vals, m4, m5, m6⟩ := id hM
  refine ⟨vals, m4, m6, fun u U hwu hU => ?_⟩
  have hwU := hwu.trans (hU.mono hwu.size)
  cases ao0 with
  | none =>
    have h0 := m3 rfl
    have hd : ds.length = 0 := by omega
    rw [hd, h0]
    obtain rfl : vals = [] := List.eq_nil_of_length_eq_zero (by omega)
    exact ⟨none, 0, 0, U, fun ty => run_append_two_none U ty, hU, Below.refl _ _, World.ownsRow_nil _ _ _ _⟩
  | some a =>
    obtain ⟨g, off, rfl, _, hcel⟩ := m5 a rfl
    obtain ⟨ao2, L2, cap2, W2, hap, hO2, hb2⟩ := run_append_vals U ⟨g, off, none⟩ cap0 vals (fun j x hx => by rw [Addr.add_lit]; exact below_cell hwU (hcel j x hx)) (Ml.ones m4 m6) (by omega)
    rw [m4] at hap
    exact ⟨ao2, L2, cap2, W2, hap, hU.trans (hb2.mono hU.size), hb2, own_low hO2 hU.size⟩

/-- The second append: the record behind it. -/
theorem app_second {w u : World} {mf n : Int} {ao0 aob : Option Addr} {cap0 capb : Nat} {b : List UInt8} {ds : List (List UInt8)} {H : Nat → Prop} {vals : List Value} (hbu : Below w.heap.size w u) (hs : w.heap.size + 3 ≤ u.heap.size)
    (hBx : Bx u w.heap.size mf (.slice ao0 ds.length cap0) 0 n (.slice aob b.length capb)) (hH : ∀ k, H k → k < w.heap.size) (hS : SlN w (.slice aob b.length capb) b H) (hl : ds.length ≤ 100) (hv : vals.length = ds.length) (h6 : ∀ (j : Nat) x d, vals[j]? = some x → ds[j]? = some d → SlN w x d H)
    (U : World) (g : Nat) (ao6 : Option Addr) (L6 cap6 : Nat) (hU : Below u.heap.size u U) (hO : U.ownsRow u.heap.size 33 1 (.slice ao6 L6 cap6) vals.length vals) (hg : U.heap[g]? = some (.cells #[.slice aob b.length capb] 33 (0, 0))) :
    ∃ ao7 L7 cap7 u7, (∀ ty, (Builtin.append_ #[30, 30] ty #[.slice ao6 L6 cap6, .slice (some ⟨g, 0, none⟩) 1 1]).run Tryd.prog U = .ok (.slice ao7 L7 cap7) u7) ∧ Bc u7 w.heap.size mf (.slice ao0 ds.length cap0) 0 n (.slice aob b.length capb) ∧
      Hid ((fin3 u7 w.heap.size mf (.slice ao7 L7 cap7)).heap[w.heap.size + 1 + 1]? = some (.cells #[.int .i64 mf, .slice ao7 L7 cap7] 32 (0, 0)) ∧ L7 = (ds ++ [b]).length ∧ Ml (fin3 u7 w.heap.size mf (.slice ao7 L7 cap7)) ao7 cap7 (ds ++ [b]) H ∧ Below w.heap.size w (fin3 u7 w.heap.size mf (.slice ao7 L7 cap7))) := by
  obtain ⟨i, hi, hz0, hz1, hz2⟩ := info_parts Fr.Tryd.info33
  have h1 : ∀ x ∈ [Value.slice aob b.length capb], x.oneCell' = true := fun x hx => by simp at hx; rw [hx]; rfl
  have HA := fun ty => run_append_own_at (P := Tryd.prog) U u.heap.size 30 ty 33 i (.slice none 0 0) 1 24 Tryd.underlying30 hi hz0 hz1 hz2 rfl (by decide) (.slice ao6 L6 cap6) vals.length vals hO ⟨g, 0, none⟩ 1 1 [.slice aob b.length capb] rfl (fun j x hx => by
    rw [Addr.add_lit, Nat.zero_add, cell_of_row U g j _ _ _ hg]
    simpa using hx) h1 (by simp only [maxLen]; omega) (by omega) hU.size
  obtain ⟨v', u7, hr, g1, g2, _, _⟩ := HA 0
  obtain ⟨ao7, L7, cap7, rfl⟩ := own_slice g1
  have hb7 : Below u.heap.size u u7 := hU.trans ((Below.refl _ _).grown g2 hU.size (fun k hk => (hO.lt k hk).1))
  have hbw : Below w.heap.size w u7 := hbu.trans (hb7.mono hbu.size)
  have hB7 := hBx.kept (u' := u7) (fun k hk => hb7.block k (by omega))
  have hvs : (vals ++ [Value.slice aob b.length capb]).length = (ds ++ [b]).length := by simp [hv]
  have hMl := Ml.of_own (ds := ds ++ [b]) (H := fun k => H k ∨ (w.heap.size ≤ k ∧ k < w.heap.size + 3)) (by rw [List.length_append]; exact g1) hvs (fun k hk => by
    rcases hk with hk | hk
    · have := hH k hk; omega
    · omega) (fun j x d hx hd => by
      have hmore : ∀ {x : Value} {d : List UInt8}, SlN w x d H → SlN u7 x d (fun k => H k ∨ (w.heap.size ≤ k ∧ k < w.heap.size + 3)) := fun {x d} hh =>
        (hh.more (K := fun k => H k ∨ (w.heap.size ≤ k ∧ k < w.heap.size + 3)) (fun k hk hK => by
          rcases hK with hK | hK
          · exact hK
          · omega)).kept (Fr.of_below hbw)
      by_cases hj : j < ds.length
      · rw [List.getElem?_append_left (by omega)] at hx hd
        exact hmore (h6 j x d hx hd)
      · rw [List.getElem?_append_right (by omega)] at hx hd
        have hj0 : j = ds.length := by
          have := (List.getElem?_eq_some_iff.1 hd).1
          simp at this
          omega
        subst hj0
        simp [hv] at hx hd
        rw [← hx, ← hd]
        exact hmore hS)
  refine ⟨ao7, L7, cap7, u7, fun _ => hr, hB7.cells, hB7.fin3 _ _, hMl.1, ?_, fin3_below _ _ hbw⟩
  exact Ml.fin (B := w.heap.size) (u := u7) hMl.2 (fin3_fr _ _ _ _ _ (fun j h1 h2 => Or.inr ⟨h1, h2⟩))

end Go.Proofs.YtnbdkojdddplkaaDoor.Wl

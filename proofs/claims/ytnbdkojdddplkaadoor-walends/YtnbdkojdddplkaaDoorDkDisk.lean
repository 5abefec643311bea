/- What a disk is in memory: laws on worlds alone. -/
import Derived.Test.YtnbdkojdddplkaaDoorDkDo
namespace Go.Proofs.YtnbdkojdddplkaaDoor.Dk
open Go.RowKit

/-- The cells of a change. -/
structure Cv where
  kd : Int
  nm : ByteArray
  dv : Value
  sz : Int
  t : ByteArray
def Cv.val (c : Cv) : Value := .agg #[.int .i64 c.kd, .string c.nm, c.dv, .int .i64 c.sz, .string c.t]
def Cv.cells (c : Cv) : List Value := [.int .i64 c.kd, .string c.nm, c.dv, .int .i64 c.sz, .string c.t]
def cellsW (ws : List (Cv × Ch)) : List Value := ws.flatMap fun y => y.1.cells
theorem cellsW_len : ∀ ws : List (Cv × Ch), (cellsW ws).length = ws.length * 5
  | [] => rfl
  | z :: r => by
    have := cellsW_len r
    simp [cellsW, Cv.cells] at this ⊢
    omega
theorem cellsW_append (a b : List (Cv × Ch)) : cellsW (a ++ b) = cellsW a ++ cellsW b := by simp [cellsW]
theorem cellsW_cons (z : Cv × Ch) (b : List (Cv × Ch)) : cellsW (z :: b) = z.1.cells ++ cellsW b := by simp [cellsW]
theorem cellsW_get (ws : List (Cv × Ch)) (i : Nat) (h : i < ws.length) (j : Nat) (hj : j < 5) : (cellsW ws)[i * 5 + j]? = ws[i].1.cells[j]? := by
  have e : ws = ws.take i ++ ws[i] :: ws.drop (i + 1) := by simp
  have hl : (ws.take i).length = i := by simp; omega
  have h1 : cellsW ws = cellsW (ws.take i) ++ (ws[i].1.cells ++ cellsW (ws.drop (i + 1))) := by
    rw [← cellsW_cons, ← cellsW_append, ← e]
  rw [h1, List.getElem?_append_right (by rw [cellsW_len, hl]; omega), cellsW_len, hl, Nat.add_sub_cancel_left, List.getElem?_append_left (by simp [Cv.cells]; omega)]

/-- The changes that wait, in memory. -/
structure Wt (w : World) (v : Value) (ws : List (Cv × Ch)) (F : Nat → Prop) : Prop where
  row : w.ownsRow 0 76 5 v ws.length (cellsW ws)
  each : ∃ Fd : Nat → Prop, (∀ k, Fd k → F k) ∧ (∀ k, v.ownBlock = some k → ¬ Fd k) ∧ ∀ y ∈ ws, ChV w y.1.val y.2 (fun k => ¬ Fd k)
  rowIn : ∀ k, v.ownBlock = some k → F k
  lt : ∀ k, F k → k < w.heap.size
theorem Wt.kept {w w' : World} {v : Value} {ws : List (Cv × Ch)} {F G : Nat → Prop} (h : Wt w v ws F) (hf : Fr G w w') (hd : ∀ k, F k → ¬ G k) : Wt w' v ws F := by
  obtain ⟨Fd, h1, h2, h3⟩ := h.each
  exact ⟨own_kept h.row hf fun k hk => hd k (h.rowIn k hk), ⟨Fd, h1, h2, fun y hy => (h3 y hy).kept (hf.mono fun k _ hG hF => hd k (h1 k hF) hG)⟩, h.rowIn, fun k hk => Nat.lt_of_lt_of_le (h.lt k hk) hf.size⟩
theorem Wt.nil (w : World) (F : Nat → Prop) (h : ∀ k, F k → k < w.heap.size) : Wt w (.slice none 0 0) [] F := ⟨World.ownsRow_nil _ _ _ _, ⟨fun _ => False, fun _ h => h.elim, fun _ _ h => h, by simp⟩, by simp [Value.ownBlock], h⟩
theorem Wt.away {w : World} {v : Value} {ws : List (Cv × Ch)} {F G : Nat → Prop} (h : Wt w v ws F) (hG : ∀ k, F k → ¬ G k) (y : Cv × Ch) (hy : y ∈ ws) : ChV w y.1.val y.2 G := by
  obtain ⟨Fd, h1, h2, h3⟩ := h.each
  exact (h3 y hy).mono (fun k hk hF => hG k (h1 k hF) hk)
theorem Cv.slice {w : World} {c : Cv} {x : Ch} {G : Nat → Prop} (h : ChV w c.val x G) : ∃ ao L cap, c.dv = .slice ao L cap := by
  obtain ⟨kd, nm, ao, L, cap, sz, t, e, _⟩ := h
  simp [Cv.val] at e
  exact ⟨ao, L, cap, e.2.2.1⟩
theorem Wt.ones {w : World} {v : Value} {ws : List (Cv × Ch)} {F : Nat → Prop} (h : Wt w v ws F) : ∀ u ∈ cellsW ws, u.oneCell' = true := by
  intro u hu
  obtain ⟨y, hy, hu⟩ := List.mem_flatMap.1 hu
  obtain ⟨Fd, h1, h2, h3⟩ := h.each
  obtain ⟨ao, L, cap, e⟩ := Cv.slice (h3 y hy)
  simp [Cv.cells] at hu
  rcases hu with rfl | rfl | rfl | rfl | rfl
  · rfl
  · rfl
  · rw [e]; rfl
  · rfl
  · rfl
theorem Wt.cell {w : World} {g cap n : Nat} {ws : List (Cv × Ch)} {F : Nat → Prop} (h : Wt w (.slice (some ⟨g, 0, none⟩) n cap) ws F) (i : Nat) (hi : i < ws.length) :
    w.cell? ⟨g, i * 5, none⟩ = some (.int .i64 ws[i].1.kd) ∧ w.cell? ⟨g, i * 5 + 1, none⟩ = some (.string ws[i].1.nm) ∧ w.cell? ⟨g, i * 5 + 2, none⟩ = some ws[i].1.dv ∧ w.cell? ⟨g, i * 5 + 3, none⟩ = some (.int .i64 ws[i].1.sz) ∧ w.cell? ⟨g, i * 5 + 4, none⟩ = some (.string ws[i].1.t) := by
  obtain ⟨hn, _⟩ | ⟨g', cap', e, _⟩ := own_shape h.row
  · simp at hn
  · have hr := h.row
    rw [e] at hr
    simp only [Value.slice.injEq, Option.some.injEq, Addr.mk.injEq, and_true] at e
    obtain ⟨rfl, rfl, rfl⟩ := e
    have hc := fun j (hj : j < 5) => cellsW_get ws i hi j hj
    exact ⟨by rw [hr.cellAt _ (by omega)]; exact hc 0 (by omega), by rw [hr.cellAt _ (by omega)]; exact hc 1 (by omega), by rw [hr.cellAt _ (by omega)]; exact hc 2 (by omega), by rw [hr.cellAt _ (by omega)]; exact hc 3 (by omega), by rw [hr.cellAt _ (by omega)]; exact hc 4 (by omega)⟩

/-- A disk in memory, part by part. -/
structure DkC (w : World) (p : Nat) (room : Int) (vl vn vw : Value) (zl zn : List Ent) (ws : List (Cv × Ch)) (Fa Fn Fw : Nat → Prop) : Prop where
  heap : w.heap[p]? = some (.cells #[.int .i64 room, vl, vn, vw] 61 (0, 0))
  fl : Fol w vl zl Fa
  fn : Fol w vn zn Fn
  wt : Wt w vw ws Fw
  d1 : ∀ k, Fa k → ¬ Fn k
  d2 : ∀ k, Fa k → ¬ Fw k
  d3 : ∀ k, Fn k → ¬ Fw k
  p1 : ¬ Fa p
  p2 : ¬ Fn p
  p3 : ¬ Fw p
theorem DkC.plt {w : World} {p : Nat} {room : Int} {vl vn vw : Value} {zl zn : List Ent} {ws : List (Cv × Ch)} {Fa Fn Fw : Nat → Prop} (h : DkC w p room vl vn vw zl zn ws Fa Fn Fw) : p < w.heap.size := (Array.getElem?_eq_some_iff.1 h.heap).1
theorem DkC.cells {w : World} {p : Nat} {room : Int} {vl vn vw : Value} {zl zn : List Ent} {ws : List (Cv × Ch)} {Fa Fn Fw : Nat → Prop} (h : DkC w p room vl vn vw zl zn ws Fa Fn Fw) :
    w.cell? ⟨p, 0, none⟩ = some (.int .i64 room) ∧ w.cell? ⟨p, 1, none⟩ = some vl ∧ w.cell? ⟨p, 2, none⟩ = some vn ∧ w.cell? ⟨p, 3, none⟩ = some vw ∧ ∀ j, w.frozen? ⟨p, j, none⟩ = false := by
  refine ⟨?_, ?_, ?_, ?_, fun j => by simp [World.frozen?, h.heap]⟩
  · rw [cell_of_row w p 0 _ _ _ h.heap]; rfl
  · rw [cell_of_row w p 1 _ _ _ h.heap]; rfl
  · rw [cell_of_row w p 2 _ _ _ h.heap]; rfl
  · rw [cell_of_row w p 3 _ _ _ h.heap]; rfl
theorem DkC.kept {w w' : World} {p : Nat} {room : Int} {vl vn vw : Value} {zl zn : List Ent} {ws : List (Cv × Ch)} {Fa Fn Fw G : Nat → Prop} (h : DkC w p room vl vn vw zl zn ws Fa Fn Fw) (hf : Fr G w w') (h1 : ∀ k, Fa k → ¬ G k) (h2 : ∀ k, Fn k → ¬ G k) (h3 : ∀ k, Fw k → ¬ G k) (h4 : ¬ G p) : DkC w' p room vl vn vw zl zn ws Fa Fn Fw :=
  ⟨(hf.block p h.plt h4).trans h.heap, h.fl.kept hf h1, h.fn.kept hf h2, h.wt.kept hf h3, h.d1, h.d2, h.d3, h.p1, h.p2, h.p3⟩

/-- What is new is in no old set. -/
theorem ext_not {F G : Nat → Prop} {w w' : World} (hG : ∀ k, G k → k < w.heap.size) (hd : ∀ k, F k → ¬ G k) : ∀ k, ext F w w' k → ¬ G k := fun k hk hg => by
  rcases hk with hk | hk
  · exact hd k hk hg
  · have := hG k hg; omega
theorem ext_not' {F G : Nat → Prop} {w w' : World} (hG : ∀ k, G k → k < w.heap.size) (hd : ∀ k, G k → ¬ F k) : ∀ k, G k → ¬ ext F w w' k := fun k hg hk => by
  rcases hk with hk | hk
  · exact hd k hg hk
  · have := hG k hg; omega

/-- The lasting files have changed. -/
theorem DkC.last {w w' : World} {p : Nat} {room : Int} {vl vn vw : Value} {zl zn : List Ent} {ws : List (Cv × Ch)} {Fa Fn Fw : Nat → Prop} (h : DkC w p room vl vn vw zl zn ws Fa Fn Fw) {vl' : Value} {zl' : List Ent} (hF : Fol w' vl' zl' (ext Fa w w')) (hf : Fr Fa (w.setCell ⟨p, 1, none⟩ vl') w') :
    DkC w' p room vl' vn vw zl' zn ws (ext Fa w w') Fn Fw := by
  have hs := hf.size
  rw [setCell_size] at hs
  have hone := Fr.one w p 1 vl'
  refine ⟨?_, hF, ?_, ?_, ext_not h.fn.lt h.d1, ext_not h.wt.lt h.d2, h.d3, fun hk => ?_, h.p2, h.p3⟩
  · rw [hf.block p (by rw [setCell_size]; exact h.plt) h.p1, heap_set h.heap]
    rfl
  · exact (h.fn.kept hone (fun k hk e => h.p2 (e ▸ hk))).kept hf (fun k hk hl => h.d1 k hl hk)
  · exact (h.wt.kept hone (fun k hk e => h.p3 (e ▸ hk))).kept hf (fun k hk hl => h.d2 k hl hk)
  · rcases hk with hk | hk
    · exact h.p1 hk
    · have := h.plt; omega
/-- The files as they are now have changed. -/
theorem DkC.now {w w' : World} {p : Nat} {room : Int} {vl vn vw : Value} {zl zn : List Ent} {ws : List (Cv × Ch)} {Fa Fn Fw : Nat → Prop} (h : DkC w p room vl vn vw zl zn ws Fa Fn Fw) {vn' : Value} {zn' : List Ent} (hF : Fol w' vn' zn' (ext Fn w w')) (hf : Fr Fn (w.setCell ⟨p, 2, none⟩ vn') w') :
    DkC w' p room vl vn' vw zl zn' ws Fa (ext Fn w w') Fw := by
  have hs := hf.size
  rw [setCell_size] at hs
  have hone := Fr.one w p 2 vn'
  refine ⟨?_, ?_, hF, ?_, ext_not' h.fl.lt h.d1, h.d2, ext_not h.wt.lt h.d3, h.p1, fun hk => ?_, h.p3⟩
  · rw [hf.block p (by rw [setCell_size]; exact h.plt) h.p2, heap_set h.heap]
    rfl
  · exact (h.fl.kept hone (fun k hk e => h.p1 (e ▸ hk))).kept hf h.d1
  · exact (h.wt.kept hone (fun k hk e => h.p3 (e ▸ hk))).kept hf (fun k hk hl => h.d3 k hl hk)
  · rcases hk with hk | hk
    · exact h.p2 hk
    · have := h.plt; omega
/-- One more change waits. -/
theorem DkC.push {w w' : World} {p : Nat} {room : Int} {vl vn vw : Value} {zl zn : List Ent} {ws : List (Cv × Ch)} {Fa Fn Fw D : Nat → Prop} (h : DkC w p room vl vn vw zl zn ws Fa Fn Fw) {vw' : Value} (y : Cv × Ch) (hrow : w'.ownsRow 0 76 5 vw' (ws.length + 1) (cellsW ws ++ y.1.cells)) (hg : w.grownBy w' vw.ownBlock)
    (hv : vw'.ownBlock = vw.ownBlock ∨ ∃ k, vw'.ownBlock = some k ∧ w.heap.size ≤ k) (hy : ChV w y.1.val y.2 (fun k => ¬ D k)) (hD : ∀ k, D k → ¬ Fa k ∧ ¬ Fn k ∧ ¬ Fw k ∧ k ≠ p ∧ k < w.heap.size) :
    DkC (w'.setCell ⟨p, 3, none⟩ vw') p room vl vn vw' zl zn (ws ++ [y]) Fa Fn (ext (fun k => Fw k ∨ D k) w w') ∧ w'.cell? ⟨p, 3, none⟩ = some vw ∧ w'.frozen? ⟨p, 3, none⟩ = false := by
  have hf : Fr (fun k => vw.ownBlock = some k) w w' := Fr.of_grown hg (fun k hk => hk)
  have hFw : ∀ k, vw.ownBlock = some k → Fw k := h.wt.rowIn
  have hone := Fr.one w' p 3 vw'
  have hlt : ∀ k, (Fw k ∨ D k) → k < w.heap.size := fun k hk => by
    rcases hk with hk | hk
    · exact h.wt.lt k hk
    · exact (hD k hk).2.2.2.2
  have hpw : ¬ vw.ownBlock = some p := fun e => h.p3 (hFw p e)
  have hheap : w'.heap[p]? = some (.cells #[.int .i64 room, vl, vn, vw] 61 (0, 0)) := (hf.block p h.plt hpw).trans h.heap
  have hnp : ¬ ext (fun k => Fw k ∨ D k) w w' p := fun hk => by
    rcases hk with (hk | hk) | hk
    · exact h.p3 hk
    · exact (hD p hk).2.2.2.1 rfl
    · have := h.plt; omega
  have hss : w.heap.size ≤ (w'.setCell ⟨p, 3, none⟩ vw').heap.size := by rw [setCell_size]; exact hg.size
  refine ⟨⟨?_, ?_, ?_, ?_, ?_, ?_, ?_, h.p1, h.p2, hnp⟩, ?_, ?_⟩
  · rw [heap_set hheap]
    rfl
  · exact (h.fl.kept hf (fun k hk e => h.d2 k hk (hFw k e))).kept hone (fun k hk e => h.p1 (e ▸ hk))
  · exact (h.fn.kept hf (fun k hk e => h.d3 k hk (hFw k e))).kept hone (fun k hk e => h.p2 (e ▸ hk))
  · refine ⟨?_, ?_, ?_, ?_⟩
    · have e : cellsW (ws ++ [y]) = cellsW ws ++ y.1.cells := by rw [cellsW_append, cellsW_cons]; simp [cellsW]
      rw [e, List.length_append]
      refine own_kept hrow hone (fun k hk e => ?_)
      subst e
      rcases hv with hv | ⟨k', hk', hge⟩
      · exact hpw (by rw [← hv]; exact hk)
      · rw [hk] at hk'
        cases hk'
        have := h.plt; omega
    · obtain ⟨Fd, g1, g2, g3⟩ := h.wt.each
      have hfr : Fr (fun k => ¬ (Fd k ∨ D k)) w (w'.setCell ⟨p, 3, none⟩ vw') := by
        refine (hf.mono (G := fun k => ¬ (Fd k ∨ D k)) (fun k _ hk hF => ?_)).trans hone (fun k hk e hF => ?_)
        · rcases hF with hF | hF
          · exact g2 k hk hF
          · exact (hD k hF).2.2.1 (hFw k hk)
        · subst e
          rcases hF with hF | hF
          · exact h.p3 (g1 k hF)
          · exact (hD k hF).2.2.2.1 rfl
      refine ⟨fun k => Fd k ∨ D k, fun k hk => ?_, fun k hk hF => ?_, fun x hx => ?_⟩
      · rcases hk with hk | hk
        · exact Or.inl (Or.inl (g1 k hk))
        · exact Or.inl (Or.inr hk)
      · rcases hv with hv | ⟨k', hk', hge⟩
        · rw [hv] at hk
          rcases hF with hF | hF
          · exact g2 k hk hF
          · exact (hD k hF).2.2.1 (hFw k hk)
        · rw [hk] at hk'
          cases hk'
          rcases hF with hF | hF
          · have := hlt k (Or.inl (g1 k hF)); omega
          · have := (hD k hF).2.2.2.2; omega
      · rcases List.mem_append.1 hx with hx | hx
        · exact ((g3 x hx).mono (fun k hk hF => hk (Or.inl hF))).kept hfr
        · simp at hx
          subst hx
          exact (hy.mono (fun k hk hF => hk (Or.inr hF))).kept hfr
    · intro k hk
      rcases hv with hv | ⟨k', hk', hge⟩
      · exact Or.inl (Or.inl (hFw k (by rw [← hv]; exact hk)))
      · rw [hk] at hk'
        cases hk'
        exact Or.inr ⟨hge, (hrow.lt k hk).2⟩
    · exact fun k hk => by rw [setCell_size]; exact ext_lt hlt hg.size k hk
  · exact h.d1
  · exact ext_not' (F := fun k => Fw k ∨ D k) h.fl.lt (fun k hk hE => by rcases hE with hE | hE; exact h.d2 k hk hE; exact (hD k hE).1 hk)
  · exact ext_not' (F := fun k => Fw k ∨ D k) h.fn.lt (fun k hk hE => by rcases hE with hE | hE; exact h.d3 k hk hE; exact (hD k hE).2.1 hk)
  · rw [cell_of_row w' p 3 _ _ _ hheap]; rfl
  · simp [World.frozen?, hheap]

/-- A disk in memory: its room, what lasts, what waits. -/
structure St where
  room : Int
  last : List Fl
  wait : List Ch
def St.now (s : St) : List Fl := Dk.run s.last s.wait
def St.push (s : St) (c : Ch) : St := ⟨s.room, s.last, s.wait ++ [c]⟩
def St.mass (s : St) : Nat := Dk.mass s.last + wmass s.wait + s.wait.length
structure St.good (s : St) : Prop where
  srt : Srt s.last
  ok : Okw s.last s.wait
  r0 : 0 ≤ s.room
  r1 : s.room ≤ 4194304
theorem St.now_mass {s : St} (h : s.good) : Dk.mass s.now + s.wait.length ≤ s.mass := by
  have := run_mass s.wait s.last h.srt
  unfold St.mass St.now
  omega
theorem St.now_srt {s : St} (h : s.good) : Srt s.now := run_srt _ _ h.srt
theorem St.push_now (s : St) (c : Ch) : (s.push c).now = ap s.now c := run_snoc _ _ _
theorem St.push_good {s : St} (h : s.good) {c : Ch} (hc : Okc s.now c) : (s.push c).good := ⟨h.srt, okw_snoc c _ _ h.ok hc, h.r0, h.r1⟩
theorem St.push_mass (s : St) (c : Ch) : (s.push c).mass = s.mass + c.mass + 1 := by
  simp [St.push, St.mass, wmass]
  omega

def Dk (w : World) (p : Nat) (s : St) (F : Nat → Prop) : Prop :=
  s.good ∧ (∀ k, F k → k < w.heap.size) ∧ ∃ vl vn vw zl zn ws Fa Fn Fw, DkC w p s.room vl vn vw zl zn ws Fa Fn Fw ∧ zl.map Ent.fl = s.last ∧ zn.map Ent.fl = s.now ∧ ws.map Prod.snd = s.wait ∧ ∀ k, (Fa k ∨ Fn k ∨ Fw k ∨ k = p) → F k
theorem Dk.kept {w w' : World} {p : Nat} {s : St} {F G : Nat → Prop} (h : Dk w p s F) (hf : Fr G w w') (hd : ∀ k, F k → ¬ G k) : Dk w' p s F := by
  obtain ⟨h1, h2, vl, vn, vw, zl, zn, ws, Fa, Fn, Fw, hC, g1, g2, g3, g4⟩ := h
  exact ⟨h1, fun k hk => Nat.lt_of_lt_of_le (h2 k hk) hf.size, vl, vn, vw, zl, zn, ws, Fa, Fn, Fw, hC.kept hf (fun k hk => hd k (g4 k (Or.inl hk))) (fun k hk => hd k (g4 k (Or.inr (Or.inl hk)))) (fun k hk => hd k (g4 k (Or.inr (Or.inr (Or.inl hk))))) (hd p (g4 p (Or.inr (Or.inr (Or.inr rfl))))), g1, g2, g3, g4⟩
theorem Dk.below {w w' : World} {p : Nat} {s : St} {F : Nat → Prop} (h : Dk w p s F) (hb : Below w.heap.size w w') : Dk w' p s F := h.kept (G := fun _ => False) (Fr.of_below hb) (fun _ _ => id)
theorem Dk.mono {w : World} {p : Nat} {s : St} {F G : Nat → Prop} (h : Dk w p s F) (hg : ∀ k, F k → G k) (hl : ∀ k, G k → k < w.heap.size) : Dk w p s G := by
  obtain ⟨h1, h2, vl, vn, vw, zl, zn, ws, Fa, Fn, Fw, hC, g1, g2, g3, g4⟩ := h
  exact ⟨h1, hl, vl, vn, vw, zl, zn, ws, Fa, Fn, Fw, hC, g1, g2, g3, fun k hk => hg k (g4 k hk)⟩
end Go.Proofs.YtnbdkojdddplkaaDoor.Dk

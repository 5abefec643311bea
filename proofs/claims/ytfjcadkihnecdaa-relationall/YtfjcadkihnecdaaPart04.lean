/- A range over an iterator that writes a place of its own between the rounds: its contract, and the law of the statement. The iterator over the keys that are not below one: its contract. The walk of Match: what it has in memory. The walk of Match. -/
import Derived.Test.YtfjcadkihnecdaaPart03
import Derived.RangeFuncNested
import Derived.RangeFuncBound
import Derived.RangeFuncCalls
import Derived.RangeFuncLeaves
import Derived.Shelf.Abstract
import Derived.Shelf.RegionOpen
import Derived.OwnWalkIn
import Derived.TacticsInMore
import Derived.LoopNIn
import Derived.LoopIn
import Derived.Sort.QuietIn
namespace Go.Proofs.Ytfjcadkihnecdaa
open Go.RowKit Go.Shelf

abbrev kv (k : Ky) : Value := .agg #[.int .i64 k.a, .int .i64 k.b, .int .i64 k.c, .int .i64 k.d]
/-- The iterator turns places alone, and such as it has laid itself. -/
def Stb50 (B : Nat) (J : World → Prop) : Prop := ∀ W W' row, J W → W.grownBy W' row → (∀ r, row = some r → B ≤ r ∧ ∃ cs f, W.heap[r]? = some (Obj.cells cs 50 f)) → J W'
/-- The law turns besides blocks of its own that are no cells. -/
def Stb (B : Nat) (J : World → Prop) : Prop := ∀ W W' row, J W → W.grownBy W' row → (∀ r, row = some r → B ≤ r ∧ ∃ o : Obj, W.heap[r]? = some o ∧ (o.isCells = false ∨ ∃ cs f, o = Obj.cells cs 50 f)) → J W'
theorem Stb.put {B : Nat} {J : World → Prop} (h : Stb B J) {W : World} {l : Nat} {o : Obj} (o' : Obj) (hj : J W) (hB : B ≤ l) (hl : W.heap[l]? = some o) (ho : o.isCells = false) : J (W.putObj l o') :=
  h W _ (some l) hj (grownBy_putObj' W l o') (fun r e => by cases e; exact ⟨hB, o, hl, .inl ho⟩)
theorem Stb.alloc {B : Nat} {J : World → Prop} (h : Stb B J) {W : World} (o : Obj) (hj : J W) : J (W.alloc o) := h W _ none hj (World.grownBy_alloc W o none) (fun r e => by cases e)
theorem Stb50.alloc {B : Nat} {J : World → Prop} (h : Stb50 B J) {W : World} (o : Obj) (hj : J W) : J (W.alloc o) := h W _ none hj (World.grownBy_alloc W o none) (fun r e => by cases e)

/-- An iterator over these keys, in this order. -/
def Gives (n gf : Nat) (lb : Array Value) (Kp : World → World → Prop) (xs : List Ky) (w0 : World) : Prop :=
  ∀ (l : Nat) (J Jx : List Ky → World → Prop) (W : World), Below w0.heap.size w0 W → (∀ s, Stb50 W.heap.size (J s)) → (∀ s, Stb50 W.heap.size (Jx s)) →
    (∀ pre x rest W1, xs = pre ++ x :: rest → J pre W1 → YieldAt Fence.wide (n - 1) Try.prog l #[kv x] W1 fun e W' =>
      (e = .returned (.bool true) ∧ J (pre ++ [x]) W' ∧ Kp W1 W') ∨ (e = .returned (.bool false) ∧ Jx (pre ++ [x]) W')) →
    J [] W →
    CallsIn Fence.wide n Try.prog gf (#[.func (.yield l) #[] #[]] ++ lb) W fun e W' => (∃ v, e = .returned v) ∧ (J xs W' ∨ ∃ pre x rest, xs = pre ++ x :: rest ∧ Jx (pre ++ [x]) W')

/-- How a round ends: at its end, or by a break. -/
def rpost (B : Nat) (Kp : World → World → Prop) (I : List Ky → World → Prop) (Ix : Nat → List Ky → World → Prop) (xs : List Ky) (W : World) : Exit → Act → World → Prop
  | .normal, _, W' => KeepsFrom B W W' ∧ Kp W W' ∧ I xs W'
  | .exit id, _, W' => KeepsFrom B W W' ∧ Ix id xs W'
  | _, _, _ => False

theorem keeps_other {W W' : World} {row : Option Nat} {B : Nat} (hg : W.grownBy W' row) (hr : ∀ r, row = some r → B ≤ r ∧ ∃ cs f, W.heap[r]? = some (Obj.cells cs 50 f)) {k : Nat} {o : Obj} (hk : W.heap[k]? = some o) (ho : o.isCells = false) : W'.heap[k]? = some o := by
  refine (hg.block k (Array.getElem?_eq_some_iff.1 hk).1 fun e => ?_).trans hk
  obtain ⟨_, cs, f, h⟩ := hr k e.symm
  rw [hk] at h
  cases h
  cases ho

theorem range_over {n : Nat} (h1 : 1 ≤ n) {g : Operand} {ps : Array Tmp} {assign body : Code} {Q : Exit → Act → World → Prop} {a : Act} {w : World} {gf : Nat} {lb : Array Value} (hg : a.eval g = .func (.func gf) #[] lb)
    (eg : ∀ args w, (callFunc gf args).run Try.prog w = .ok (.enter gf args) w) {Kp : World → World → Prop} {xs : List Ky} {w0 : World} (hseq : Gives (n - 1) gf lb Kp xs w0) (hKt : ∀ {A B C : World}, Kp A B → Kp B C → Kp A C)
    (hKb : ∀ (W : World) (l : Nat) (o o' : Obj), W.heap[l]? = some o → o.isCells = false → Kp W (W.putObj l o')) (hKa : ∀ (W : World) (o : Obj), Kp W (W.alloc o)) (hb0 : Below w0.heap.size w0 w) (hps : ps.size = 1)
    (I : List Ky → World → Prop) (Ix : Nat → List Ky → World → Prop) (hI : ∀ s, Stb w.heap.size (I s)) (hIx : ∀ c s, Stb w.heap.size (Ix c s)) (h0 : I [] w) (a₁ : Ky → Nat → Act)
    (hassign : ∀ (l : Nat) (x : Ky) (W : World) (K : Act → World → Prop), K (a₁ x W.heap.size) (W.alloc (.cells x.cs 47)) → assign.wpIn (Fence.wide.inRound l) (n - 1 - 1) Try.prog (Exit.then K (fun _ _ _ => False)) { tmps := (ps.zip #[kv x]).foldl (fun t (p, v) => t.setIfInBounds p v) a.tmps, defers := [] } W)
    (hbody : ∀ (l : Nat) (pre : List Ky) (x : Ky) (rest : List Ky) (b : Nat) (W : World), xs = pre ++ x :: rest → I pre W → Bx W b 47 x.cs → w.heap.size ≤ b → body.wpIn (Fence.wide.inRound l) (n - 1 - 1) Try.prog (rpost w.heap.size Kp I Ix (pre ++ [x]) W) (a₁ x b) W)
    (hdone : ∀ (D : Nat) (W : World), w.heap.size ≤ D → I xs W → W.heap[D]? = some (.deferred (some [])) → Q .normal { a with defers := { target := .collected D, args := #[] } :: a.defers } W)
    (hstop : ∀ (D id : Nat) (pre : List Ky) (x : Ky) (rest : List Ky) (W : World), w.heap.size ≤ D → xs = pre ++ x :: rest → Ix id (pre ++ [x]) W → W.heap[D]? = some (.deferred (some [])) → (Code.exit id).wpIn Fence.wide n Try.prog Q { a with defers := { target := .collected D, args := #[] } :: a.defers } W) :
    (Code.rangeFunc g ps assign body).wpIn Fence.wide n Try.prog Q a w := by
  refine wpIn_rangeFunc fun fn hfn => ?_
  obtain ⟨rc, hrc⟩ : ∃ rc : LoopState → Option Code → Loop, rc = fun st pe => { state := st, pending := pe, fn, tmps := a.tmps, params := ps, assign, body, defers := w.heap.size } := ⟨_, rfl⟩
  have hL := World.alloc_heap_new (w.alloc (.deferred (some []))) (.loop (rc .ready none))
  have hD : ((w.alloc (.deferred (some []))).alloc (.loop (rc .ready none))).heap[w.heap.size]? = some (.deferred (some [])) := (Below.heap_alloc _ _ _ (by simp)).trans (World.alloc_heap_new w _)
  have hI1 : I [] ((w.alloc (.deferred (some []))).alloc (.loop (rc .ready none))) := (hI []).alloc _ ((hI []).alloc _ h0)
  have hb1 : Below w0.heap.size w0 ((w.alloc (.deferred (some []))).alloc (.loop (rc .ready none))) := hb0.trans ((below_box2 w _ _).mono hb0.size)
  have hen : (Instr.enterLoop fn a.tmps ps assign body none).run Try.prog w = .ok (w.heap.size + 1, [{ target := .collected w.heap.size, args := #[] }]) ((w.alloc (.deferred (some []))).alloc (.loop (rc .ready none))) := by
    rw [hrc]; exact run_enterLoop_outer _ _ _ _ _
  have hsz1 : w.heap.size + 1 < ((w.alloc (.deferred (some []))).alloc (.loop (rc .ready none))).heap.size := by simp
  rw [World.size_alloc] at hL
  generalize (w.alloc (.deferred (some []))).alloc (.loop (rc .ready none)) = W1 at *
  refine ⟨w.heap.size + 1, _, W1, { target := .fn (.func gf) lb, args := #[.func (.yield (w.heap.size + 1)) #[] #[]] }, W1, gf, #[.func (.yield (w.heap.size + 1)) #[] #[]] ++ lb, W1, hen, ?_, fun _ _ => trivial, ?_, fun _ => h1, ?_⟩
  · simp only [resolve, hg]
    simp [go_sem]
  · simp [invoke, go_sem, eg]
  have hob : ∀ {st pe}, (Obj.loop (rc st pe)).isCells = false := rfl
  refine (hseq (w.heap.size + 1)
    (fun pre W => I pre W ∧ W.heap[w.heap.size + 1]? = some (.loop (rc .ready none)) ∧ W.heap[w.heap.size]? = some (.deferred (some [])))
    (fun pre W => ∃ id, Ix id pre W ∧ W.heap[w.heap.size + 1]? = some (.loop (rc .done (some (.exit id)))) ∧ W.heap[w.heap.size]? = some (.deferred (some [])))
    W1 hb1
    (fun s A B row hs hg' hr => ⟨hI s A B row hs.1 hg' (fun r e => by obtain ⟨hB, cs, f, ho⟩ := hr r e; exact ⟨by omega, _, ho, .inr ⟨cs, f, rfl⟩⟩), keeps_other hg' hr hs.2.1 rfl, keeps_other hg' hr hs.2.2 rfl⟩)
    (fun s A B row hs hg' hr => by
      obtain ⟨c, hc, hl, hk⟩ := hs
      exact ⟨c, hIx c s A B row hc hg' (fun r e => by obtain ⟨hB, cs, f, ho⟩ := hr r e; exact ⟨by omega, _, ho, .inr ⟨cs, f, rfl⟩⟩), keeps_other hg' hr hl rfl, keeps_other hg' hr hk rfl⟩)
    ?_ ⟨hI1, hL, hD⟩).mono ?_
  · rintro pre x rest W hx ⟨hi, hl, hk⟩
    have hlt : w.heap.size + 1 < W.heap.size := (Array.getElem?_eq_some_iff.1 hl).1
    have hy := run_yield (P := Try.prog) (args := #[kv x]) hl (by rw [hrc]; exact hps.symm)
    rw [hrc] at hy
    have hlA : (W.alloc (.cells x.cs 47)).heap[w.heap.size + 1]? = some (.loop (rc .ready none)) := (Below.heap_alloc _ _ _ hlt).trans hl
    have hkA : (W.alloc (.cells x.cs 47)).heap[w.heap.size]? = some (.deferred (some [])) := (Below.heap_alloc _ _ _ (by omega)).trans hk
    have hiA := (hI pre).alloc (.cells x.cs 47) hi
    have hbA := Bx.new W x.cs 47
    have hltA : w.heap.size + 1 < (W.alloc (.cells x.cs 47)).heap.size := by simp; omega
    have hKA := hKa W (.cells x.cs 47)
    refine ⟨fn, _, assign, body, hy, roundIn_of_wpIn hfn (hassign _ x W _ ⟨_, run_beginRound hlA (by rw [hrc]), ?_⟩)⟩
    generalize W.alloc (.cells x.cs 47) = WA at *
    have hbusy : (WA.putObj (w.heap.size + 1) (.loop { rc .ready none with state := .busy })).heap[w.heap.size + 1]? = some (.loop { rc .ready none with state := .busy }) := World.putObj_heap_same hltA
    have hk2 : (WA.putObj (w.heap.size + 1) (.loop { rc .ready none with state := .busy })).heap[w.heap.size]? = some (.deferred (some [])) := (World.putObj_heap_other (by omega)).trans hkA
    have hbx2 : Bx (WA.putObj (w.heap.size + 1) (.loop { rc .ready none with state := .busy })) W.heap.size 47 x.cs := (World.putObj_heap_other (by omega)).trans hbA
    refine wpIn_mono (hbody _ pre x rest W.heap.size _ hx ((hI pre).put _ hiA (by omega) hlA rfl) hbx2 (by omega)) ?_
    rintro e a3 W3 hp
    cases e with
    | normal =>
      obtain ⟨hk3, hkp3, hi3⟩ := hp
      have hl3 := hk3.same _ _ (by omega) hbusy rfl
      have hend := run_endRound (P := Try.prog) none hl3
      have hk4 : (W3.putObj (w.heap.size + 1) (.loop (rc .ready none))).heap[w.heap.size]? = some (.deferred (some [])) := (World.putObj_heap_other (by omega)).trans (hk3.same _ _ (Nat.le_refl _) hk2 rfl)
      have hl4 : (W3.putObj (w.heap.size + 1) (.loop (rc .ready none))).heap[w.heap.size + 1]? = some (.loop (rc .ready none)) := World.putObj_heap_same (Array.getElem?_eq_some_iff.1 hl3).1
      have hi4 := (hI (pre ++ [x])).put (.loop (rc .ready none)) hi3 (by omega) hl3 rfl
      have hkp : Kp W (W3.putObj (w.heap.size + 1) (.loop (rc .ready none))) := hKt (hKt (hKt hKA (hKb _ _ _ _ hlA rfl)) hkp3) (hKb _ _ _ _ hl3 rfl)
      rw [hrc] at hend hl4 hk4 hi4 hkp ⊢
      exact ⟨_, _, hend, .inl ⟨rfl, ⟨hi4, hl4, hk4⟩, hkp⟩⟩
    | exit id =>
      obtain ⟨hk3, hi3⟩ := hp
      have hl3 := hk3.same _ _ (by omega) hbusy rfl
      have hend := run_endRound (P := Try.prog) (some (.exit id)) hl3
      have hk4 : (W3.putObj (w.heap.size + 1) (.loop (rc .done (some (.exit id))))).heap[w.heap.size]? = some (.deferred (some [])) := (World.putObj_heap_other (by omega)).trans (hk3.same _ _ (Nat.le_refl _) hk2 rfl)
      have hl4 : (W3.putObj (w.heap.size + 1) (.loop (rc .done (some (.exit id))))).heap[w.heap.size + 1]? = some (.loop (rc .done (some (.exit id)))) := World.putObj_heap_same (Array.getElem?_eq_some_iff.1 hl3).1
      have hi4 := (hIx id (pre ++ [x])).put (.loop (rc .done (some (.exit id)))) hi3 (by omega) hl3 rfl
      rw [hrc] at hend hl4 hk4 hi4 ⊢
      exact ⟨_, _, hend, .inr ⟨rfl, id, hi4, hl4, hk4⟩⟩
    | _ => exact hp.elim
  · rintro e W2 ⟨⟨v, rfl⟩, (⟨hi, hl, hk⟩ | ⟨pre, x, rest, hx, id, hi, hl, hk⟩)⟩
    · have hend := run_endLoop (P := Try.prog) hl (by rw [hrc]; simp)
      rw [hrc] at hend
      exact ⟨none, _, hend, hdone _ _ (Nat.le_refl _) ((hI xs).put _ hi (by omega) hl rfl) ((World.putObj_heap_other (by omega)).trans hk)⟩
    · have hend := run_endLoop (P := Try.prog) hl (by rw [hrc]; simp)
      rw [hrc] at hend
      exact ⟨some (.exit id), _, hend, hstop _ id pre x rest _ (Nat.le_refl _) hx ((hIx id _).put _ hi (by omega) hl rfl) ((World.putObj_heap_other (by omega)).trans hk)⟩
end Go.Proofs.Ytfjcadkihnecdaa
namespace Go.Proofs.Ytfjcadkihnecdaa
open Go.RowKit Go.Shelf

/-- All cells are as they were but for rows of rows and their variables. -/
def Kt (W W' : World) : Prop := ∀ (k : Nat) (cs : Array Value) (t : TypeId) (f : Nat × Nat), W.heap[k]? = some (Obj.cells cs t f) → t ≠ 32 → t ≠ 34 → W'.heap[k]? = some (Obj.cells cs t f)
theorem Kt.refl (W : World) : Kt W W := fun _ _ _ _ h _ _ => h
theorem Kt.trans {A B C : World} (h : Kt A B) (k : Kt B C) : Kt A C := fun i _ _ _ hi h1 h2 => k i _ _ _ (h i _ _ _ hi h1 h2) h1 h2
theorem Kt.of_below {W W' : World} (h : Below W.heap.size W W') : Kt W W' := fun k _ _ _ hk _ _ => (h.block k (Array.getElem?_eq_some_iff.1 hk).1).trans hk
theorem Kt.below {A W W' : World} (h : Kt A W) (hb : Below W.heap.size W W') : Kt A W' := h.trans (Kt.of_below hb)
theorem Kt.put (W : World) (l : Nat) (o o' : Obj) (h : W.heap[l]? = some o) (ho : o.isCells = false) : Kt W (W.putObj l o') := fun k cs t f hk _ _ => by
  have : k ≠ l := by
    rintro rfl
    rw [h] at hk
    cases hk
    cases ho
  rw [World.putObj_heap_other this]
  exact hk
theorem Kt.bx {W W' : World} (h : Kt W W') {b : Nat} {T : TypeId} {cs : Array Value} (hb : Bx W b T cs) (h1 : T ≠ 32) (h2 : T ≠ 34) : Bx W' b T cs := h b _ _ _ hb h1 h2
theorem Kt.own {W W' : World} (h : Kt W W') {base e size n : Nat} {v : Value} {xs : List Value} (ho : W.ownsRow base e size v n xs) (h1 : e ≠ 32) (h2 : e ≠ 34) : W'.ownsRow base e size v n xs := by
  refine ⟨ho.1, ?_⟩
  rcases ho.2 with hn' | ⟨g, cap, cur, rfl, hb, hgg, rest⟩
  · exact .inl hn'
  · exact .inr ⟨g, cap, cur, rfl, hb, h g _ _ _ hgg h1 h2, rest⟩
theorem Kt.pgs {W W' : World} (h : Kt W W') {v : Value} {zs : List Pg} (hp : Pgs W v zs) : Pgs W' v zs := ⟨h.own hp.row (by decide) (by decide), fun z hz => h.own (hp.data z hz) (by decide) (by decide), hp.apart⟩
/-- A place of one's own is written. -/
theorem Kt.set {A W : World} (h : Kt A W) {b : Nat} (hb : A.heap.size ≤ b) (i : Nat) (x : Value) : Kt A (W.setCell ⟨b, i, none⟩ x) := fun k cs t f hk h1 h2 => by
  have := (Array.getElem?_eq_some_iff.1 hk).1
  rw [Below.heap_setCell _ _ _ _ (show k ≠ b by omega)]
  exact h k cs t f hk h1 h2

/-- What is left of the pages from a place on. -/
def left (B : List Pg) (at' : Nat) : List (List Ky) := match B with
  | [] => []
  | z :: T => z.ks.drop at' :: T.map Pg.ks
theorem left_len (B : List Pg) (at' : Nat) : (left B at').length = B.length := by cases B <;> simp [left]
theorem left_flat (z : Pg) (T : List Pg) (at' : Nat) : (left (z :: T) at').flatten = z.ks.drop at' ++ keys T := by simp [left, keys, List.flatMap]
theorem left_at (B : List Pg) (at' i : Nat) (h : i < B.length) (h2 : i < (left B at').length) : (left B at')[i] = B[i].ks.drop (if i = 0 then at' else 0) := by
  cases B with
  | nil => simp at h
  | cons z T =>
    cases i with
    | zero => simp [left]
    | succ i => simp [left]
theorem flat_take (L : List (List Ky)) (i : Nat) (h : i < L.length) : (L.take (i + 1)).flatten = (L.take i).flatten ++ L[i] := by
  rw [List.take_succ_eq_append_getElem h]
  simp only [List.flatten_append, List.flatten_cons, List.flatten_nil, List.append_nil]
theorem flat_at (L : List (List Ky)) (i m : Nat) (h : i < L.length) (hm : m < L[i].length) : ∃ rest, L.flatten = ((L.take i).flatten ++ L[i].take m) ++ L[i][m] :: rest := by
  refine ⟨L[i].drop (m + 1) ++ (L.drop (i + 1)).flatten, ?_⟩
  have e1 : L.flatten = (L.take i ++ L[i] :: L.drop (i + 1)).flatten := congrArg List.flatten (by simp)
  have e2 : L[i] = L[i].take m ++ L[i][m] :: L[i].drop (m + 1) := by simp
  have e3 : L[i] ++ (L.drop (i + 1)).flatten = (L[i].take m ++ L[i][m] :: L[i].drop (m + 1)) ++ (L.drop (i + 1)).flatten := congrArg (· ++ (L.drop (i + 1)).flatten) e2
  rw [e1]
  simp only [List.flatten_append, List.flatten_cons]
  rw [e3]
  simp only [List.append_assoc, List.cons_append]

theorem page_at {X : World} {ao : Option Addr} {N cap : Nat} {A B : List Pg} (h : Pgs X (.slice ao N cap) (A ++ B)) {i : Nat} (hi : i < B.length) (hpos : 0 < B[i].ks.length) :
    ∃ g g2 cap2, ao = some ⟨g, 0, none⟩ ∧ X.cell? ⟨g, A.length + i, none⟩ = some (.slice (some ⟨g2, 0, none⟩) B[i].ks.length cap2) ∧ B[i].ks.length ≤ cap2 ∧ cap2 ≤ maxLen ∧ (∃ cs f, X.heap[g2]? = some (Obj.cells cs 47 f)) ∧ ∀ m (hm : m < B[i].ks.length), K4 X g2 (m * 4) B[i].ks[m] := by
  have hmem : B[i] ∈ A ++ B := by simp
  have hd := h.data B[i] hmem
  have hr := h.row
  rcases h.shape with ⟨e, h0⟩ | ⟨g, cap', e, _⟩
  · simp at h0; have := h0.2; subst this; simp at hi
  · rcases own_shape hd with ⟨e2, h0⟩ | ⟨g2, cap2, e2, h1, h2, _⟩
    · omega
    · rw [e] at hr
      simp only [Value.slice.injEq] at e
      refine ⟨g, g2, cap2, e.1, ?_, h1, h2, ?_, fun m hm => ?_⟩
      · rw [hr.cellAt (A.length + i) (by simp; omega), ← e2]
        simp [dvs, hi]
      · obtain ⟨cs, hcs⟩ := own_at hd (k := g2) (by rw [e2]; rfl)
        exact ⟨cs, _, hcs⟩
      · rw [e2] at hd
        obtain ⟨k0, k1, k2, k3⟩ := cellsK_get B[i].ks m hm
        refine ⟨?_, ?_, ?_, ?_⟩ <;> rw [hd.cellAt _ (by omega)] <;> assumption

/-- from(low): both are boxed; the function value captures the boxes. -/
theorem from_in (n : Nat) (ao : Option Addr) (N cap : Nat) (k : Ky) (w : World) :
    CallsIn Fence.wide n Try.prog 25 #[.slice ao N cap, kv k] w fun e w' => e = .returned (.func (.func 40) #[] #[.pointer (some ⟨w.heap.size, 0, none⟩), .pointer (some ⟨w.heap.size + 1, 0, none⟩)]) ∧ w' = (w.alloc (.cells #[.slice ao N cap] 43)).alloc (.cells #[.int .i64 k.a, .int .i64 k.b, .int .i64 k.c, .int .i64 k.d] 47) := by
  refine callsIn_of_wp Try.func25 rfl trivial ?_ rfl
  simp only [Try.ntmps25, List.size_toArray, List.length_cons, List.length_nil, Nat.reduceAdd, Nat.reduceSub, Array.replicate_succ, Array.replicate_zero, List.push_toArray, List.append_toArray, List.nil_append, List.cons_append]
  gi_wp2
  go_ret
  exact ⟨rfl, rfl⟩

set_option maxRecDepth 100000 in
set_option maxHeartbeats 8000000 in
theorem from1_in (n : Nat) (hn : 1 ≤ n) (l bp bl : Nat) (v : Value) (A B : List Pg) (k : Ky) (at' : Nat) (f : Bool) (J Jx : List Ky → World → Prop) (W : World) (hJ : ∀ s, Stb50 W.heap.size (J s))
    (hY : ∀ pre x rest W1, (left B at').flatten = pre ++ x :: rest → J pre W1 → YieldAt Fence.wide (n - 1) Try.prog l #[kv x] W1 fun e W' =>
      (e = .returned (.bool true) ∧ J (pre ++ [x]) W' ∧ Kt W1 W') ∨ (e = .returned (.bool false) ∧ Jx (pre ++ [x]) W'))
    (hbp : Bx W bp 43 #[v]) (hbl : Bx W bl 47 k.cs) (hP : Pgs W v (A ++ B)) (hne : ∀ z ∈ A ++ B, z.ks ≠ []) (hsz : ∀ z ∈ A ++ B, z.ks.length ≤ 1000000000) (hl : (A ++ B).length ≤ 1000000000) (hat : At A B k at' f) (hale : ∀ z T, B = z :: T → at' < z.ks.length) (h0 : J [] W) :
    CallsIn Fence.wide n Try.prog 40 #[.func (.yield l) #[] #[], .pointer (some ⟨bp, 0, none⟩), .pointer (some ⟨bl, 0, none⟩)] W fun e W' => (∃ v, e = .returned v) ∧ (J (left B at').flatten W' ∨ ∃ pre x rest, (left B at').flatten = pre ++ x :: rest ∧ Jx (pre ++ [x]) W') := by
  have HFI := hide (find_any v A B k at' f W hP.ps hne hsz hl hat)
  have HP := hide hP
  have HBP := hide hbp
  have HJA : Hid (∀ s wr o, J s wr → J s (wr.alloc o)) := fun s wr o h => (hJ s).alloc o h
  have HJB : Hid (∀ s (X Y : World), J s X → Below X.heap.size X Y → J s Y) := fun s X Y h hb => hJ s X Y none h ⟨hb.os, hb.tape, hb.output, hb.size, fun k hk _ => hb.block k hk⟩ (fun r e => by cases e)
  have HJS : Hid (∀ s (X : World) b i x cs, J s X → W.heap.size ≤ b → Bx X b 50 cs → J s (X.setCell ⟨b, i, none⟩ x)) := fun s X b i x cs h hB hb =>
    hJ s X _ (some b) h ⟨rfl, rfl, rfl, by simp [World.setCell], fun k _ hk => Below.heap_setCell _ _ _ _ (fun e => hk (by rw [e]))⟩ (fun r e => by cases e; exact ⟨hB, _, _, hb⟩)
  have HY := hide hY
  have x0 := hbl.c 0
  have x1 := hbl.c 1
  have x2 := hbl.c 2
  have x3 := hbl.c 3
  have c0 := hbp.c 0
  simp [Ky.cs] at x0 x1 x2 x3 c0
  have HLE : Hid (∀ i (h : i < B.length), (if i = 0 then at' else 0) < B[i].ks.length ∧ B[i].ks.length ≤ 1000000000) := fun i h => by
    refine ⟨?_, hsz _ (by simp)⟩
    split
    · subst_vars
      cases B with
      | nil => simp at h
      | cons z T => exact hale z T rfl
    · exact List.length_pos_iff.2 (hne _ (by simp))
  obtain ⟨ao, N, cap, rfl⟩ := own_slice hP.row
  have hN : N = A.length + B.length := by
    rcases hP.shape with ⟨e, h0⟩ | ⟨_, _, e, _⟩
    · simp only [Value.slice.injEq] at e; simp at h0; rw [e.2.1, h0.1, h0.2]; rfl
    · simp only [Value.slice.injEq] at e; rw [e.2.1]; simp
  have hNl : N ≤ 1000000000 := by rw [hN]; simpa using hl
  have HN := hide hN
  clear hN
  clear hY hbp hbl hP hne hsz hl hat hale hJ
  refine callsIn_of_wp Try.func40 rfl trivial ?_ rfl
  simp only [Try.ntmps40, List.size_toArray, List.length_cons, List.length_nil, Nat.reduceAdd, Nat.reduceSub, Array.replicate_succ, Array.replicate_zero, List.push_toArray, List.append_toArray, List.nil_append, List.cons_append]
  gi_wp2
  refine ⟨trivial, ?_⟩
  refine (callsIn_wide.2 HFI.out).mono ?_
  rintro e w2 ⟨rfl, hb2⟩
  have HB2 := hide hb2
  have hs2 := hb2.size
  clear hb2 x0 x1 x2 x3 c0 HFI
  gi_wp2
  have HAT : Hid (∀ X, Kt W X → ∀ i (h : i < B.length), ∃ g g2 cap2, ao = some ⟨g, 0, none⟩ ∧ X.cell? ⟨g, A.length + i, none⟩ = some (.slice (some ⟨g2, 0, none⟩) B[i].ks.length cap2) ∧ B[i].ks.length ≤ cap2 ∧ cap2 ≤ maxLen ∧ (∃ cs f, X.heap[g2]? = some (Obj.cells cs 47 f)) ∧ ∀ m (hm : m < B[i].ks.length), K4 X g2 (m * 4) B[i].ks[m]) := fun X hX i h => page_at (hX.pgs HP.out) h (by have := (HLE.out i h).1; omega)
  generalize A.length = a at *
  gi_loopw [6] (fun i wr => ∃ j : Nat, j ≤ B.length ∧ i = .int .i64 ((a : Int) + (j : Int)) ∧ Hid (J ((left B at').take j).flatten wr) ∧ Hid (Kt W wr) ∧ Hid (Bx wr w2.heap.size 50 #[.int .i64 (a : Int), .int .i64 ((if j = 0 then at' else 0 : Nat) : Int)])) (fun i _ => N - (intOf i).toNat)
  case atStart => exact ⟨0, Nat.zero_le _, by simp, HJA.out _ _ _ (HJB.out _ _ _ h0 HB2.out), (Kt.of_below HB2.out).below (below_box _ _), Bx.new w2 _ 50⟩
  case round =>
    obtain ⟨j, hj, rfl, HJ, HK, HX⟩ := hrel
    have c0 := (HK.out.bx HBP.out (by decide) (by decide)).c 0
    simp at c0
    by_cases hlt : j < B.length
    · have hltN : a + j < N := by have := HN.out; omega
      have hltNI : (a : Int) + (j : Int) < (N : Int) := by omega
      have hnn : (0 : Int) ≤ (a : Int) + (j : Int) := by omega
      have hto : ((a : Int) + (j : Int)).toNat = a + j := by omega
      obtain ⟨g, g2, cap2, rfl, cz, hmc, hmx, h47, hk4⟩ := HAT.out wr HK.out j hlt
      have HT47 := hide h47
      clear h47
      obtain ⟨hq, hml⟩ := HLE.out j hlt
      have hll : j < (left B at').length := by rw [left_len]; exact hlt
      have HLA := hide (left_at B at' j hlt hll)
      have HFT := hide (flat_take (left B at') j hll)
      have HFA : Hid (∀ m (hm : m < (left B at')[j].length), ∃ rest, (left B at').flatten = (((left B at').take j).flatten ++ (left B at')[j].take m) ++ (left B at')[j][m] :: rest) := fun m hm => flat_at (left B at') j m hll hm
      have d1 := HX.out.c 1
      have fd1 := HX.out.f 1
      simp only [List.getElem?_toArray, List.getElem?_cons_succ, List.getElem?_cons_zero] at d1
      have HK4 := hide hk4
      generalize (left B at')[j] = lj at *
      generalize (if j = 0 then at' else 0) = q at *
      generalize B[j].ks = ks at *
      have hmx' : cap2 ≤ 9223372036854775807 := hmx
      obtain ⟨m, hm⟩ : ∃ m, ks.length = m := ⟨_, rfl⟩
      rw [hm] at hq hml cz hmc
      have HM := hide hm
      have hcq : ¬ cap2 = q := by omega
      have hqm : q ≤ m := by omega
      have hqmI : (q : Int) ≤ (m : Int) := by omega
      have hmcI : (m : Int) ≤ (cap2 : Int) := by omega
      have hqI : (q : Int) ≤ (cap2 : Int) := by omega
      clear hk4 hm hmx
      gi_wp2
      gi_big_quiet (fail)
      have HJ1 := hide (HJB.out _ _ _ HJ.out (below_drewN wr nq))
      have HK1 := hide (HK.out.below (below_drewN wr nq))
      have HX1 := hide (HX.out.below (below_drewN wr nq))
      have HP4 : Hid (∀ i, i < m - q → ∃ x, (∀ X, Kt (wr.drewN nq) X → K4 X g2 (q * 4 + i * 4) x) ∧ lj.take (i + 1) = lj.take i ++ [x] ∧ ∃ rest, (left B at').flatten = (((left B at').take j).flatten ++ lj.take i) ++ x :: rest) := fun i hi => by
        have hlj := HLA.out
        have hm' := HM.out
        have hil : i < lj.length := by rw [hlj, List.length_drop]; omega
        have hqi : q + i < ks.length := by omega
        have e1 : lj[i] = ks[q + i] := by simp only [hlj, List.getElem_drop]
        refine ⟨ks[q + i], fun X hX => ?_, by rw [List.take_succ_eq_append_getElem hil, e1], ?_⟩
        · have h4 := HK4.out (q + i) hqi
          rw [Nat.add_mul] at h4
          have hgx : ∀ o u, wr.cell? ⟨g2, o, none⟩ = some u → X.cell? ⟨g2, o, none⟩ = some u := fun o u hu => by
            have hbx : ∃ cs f, wr.heap[g2]? = some (Obj.cells cs 47 f) := HT47.out
            obtain ⟨cs, fz, hh⟩ := hbx
            have hX2 := hX g2 cs 47 fz hh (by decide) (by decide)
            exact (World.cell?_of_block (hX2.trans hh.symm)).trans hu
          exact ⟨hgx _ _ h4.1, hgx _ _ h4.2.1, hgx _ _ h4.2.2.1, hgx _ _ h4.2.2.2⟩
        · obtain ⟨rest, hr⟩ := HFA.out i hil
          rw [e1] at hr
          exact ⟨rest, hr⟩
      have HEND : Hid (lj.take (m - q) = lj) := List.take_of_length_le (by rw [HLA.out, List.length_drop, HM.out]; omega)
      clear HFA HLA HK4 HJ HK HX cz c0 d1 fd1
      generalize wr.drewN nq = W4 at *
      gi_wp2
      gi_loopw [31] (fun i wx => ∃ i' : Nat, i' ≤ m - q ∧ i = .int .i64 i' ∧ Hid (J (((left B at').take j).flatten ++ lj.take i') wx) ∧ Hid (Kt W4 wx)) (fun i _ => (m - q) - (intOf i).toNat)
      case atStart => exact ⟨0, Nat.zero_le _, rfl, by rw [List.take_zero, List.append_nil]; exact HJ1, Kt.refl _⟩
      case round =>
        obtain ⟨i, hi, rfl, HJ5, HK5⟩ := hrel
        by_cases hli : i < m - q
        · have hliI : (i : Int) < ((m - q : Nat) : Int) := by omega
          obtain ⟨x, hx4, hxt, rest, hxr⟩ := HP4.out i hli
          obtain ⟨k0, k1, k2, k3⟩ := hx4 wr HK5.out
          have HJ6 := hide (HJA.out _ _ (.cells #[.int .i64 x.a, .int .i64 x.b, .int .i64 x.c, .int .i64 x.d] 47) HJ5.out)
          have HK6 := hide (HK5.out.below (below_box wr (.cells #[.int .i64 x.a, .int .i64 x.b, .int .i64 x.c, .int .i64 x.d] 47)))
          have HYk := hide (HY.out _ x rest _ hxr HJ6.out)
          have HXT := hide hxt
          have HXR := hide hxr
          obtain ⟨fn, tmps, assign, body, hy, hR⟩ := HYk.out
          have HR := hide hR
          clear hR HYk hx4 hxt hxr HJ5
          gi_wp2
          refine RoundIn.mono HR.out ?_
          rintro e W7 (⟨rfl, hJ7, hk7⟩ | ⟨rfl, hJx7⟩)
          · have HJ7 := hide hJ7
            have HK7 := hide (HK6.out.trans hk7)
            clear hJ7 hk7
            gi_wp2
            go_roundw
            case rel => exact ⟨i + 1, by omega, by simp, by rw [HXT.out, ← List.append_assoc]; exact HJ7, HK7⟩
            case measure => simp [intOf]; omega
          · have HJ7 := hide hJx7
            clear hJx7
            gi_wp2
            refine bodyPost_ret (results_none rfl _ _ _) rfl ?_
            exact ⟨⟨_, rfl⟩, .inr ⟨_, x, rest, HXR.out, HJ7.out⟩⟩
        · have hliI : ¬ (i : Int) < ((m - q : Nat) : Int) := by omega
          have e : i = m - q := by omega
          rw [e, HEND.out, ← HFT.out] at HJ5
          clear e
          have HX8 := hide (HK5.out.bx HX1.out (by decide) (by decide))
          have d1 := HX8.out.c 1
          have fd1 := HX8.out.f 1
          simp only [List.getElem?_toArray, List.getElem?_cons_succ, List.getElem?_cons_zero] at d1
          have HJ9 := hide (HJS.out _ _ w2.heap.size 1 (.int .i64 0) _ HJ5.out hs2 HX8.out)
          have HX9 : Hid (Bx (wr.setCell ⟨w2.heap.size, 1, none⟩ (.int .i64 0)) w2.heap.size 50 #[.int .i64 (a : Int), .int .i64 0]) := HX8.out.set 1 _
          have HK9 := hide ((HK1.out.trans HK5.out).set (b := w2.heap.size) hs2 1 (.int .i64 0))
          gi_wp2
          go_roundw
          case rel => exact ⟨j + 1, by omega, by simp; omega, HJ9, HK9, HX9⟩
          case measure => simp [intOf]; omega
    · have hjB : ¬ (a : Int) + (j : Int) < (N : Int) := by have := HN.out; omega
      have e : (left B at').take j = left B at' := List.take_of_length_le (by rw [left_len]; omega)
      rw [e] at HJ
      clear e
      gi_wp2
      go_end0
      exact ⟨⟨_, rfl⟩, .inl HJ.out⟩

theorem from_gives (n : Nat) (hn : 1 ≤ n) (bp bl : Nat) (v : Value) (A B : List Pg) (k : Ky) (at' : Nat) (f : Bool) (w : World) (hbp : Bx w bp 43 #[v]) (hbl : Bx w bl 47 k.cs) (hP : Pgs w v (A ++ B)) (hne : ∀ z ∈ A ++ B, z.ks ≠ []) (hsz : ∀ z ∈ A ++ B, z.ks.length ≤ 1000000000) (hl : (A ++ B).length ≤ 1000000000) (hat : At A B k at' f) (hale : ∀ z T, B = z :: T → at' < z.ks.length) :
    Gives n 40 #[.pointer (some ⟨bp, 0, none⟩), .pointer (some ⟨bl, 0, none⟩)] Kt (left B at').flatten w := fun l J Jx W hW hJ _ hY h0 =>
  from1_in n hn l bp bl v A B k at' f J Jx W hJ hY (hbp.below hW) (hbl.below hW) (hP.below hW) hne hsz hl hat hale h0
end Go.Proofs.Ytfjcadkihnecdaa
namespace Go.Proofs.Ytfjcadkihnecdaa
open Go.RowKit Go.Shelf

/-- A slice of rows of one's own: each in memory of its own. -/
def Rw (b : Nat) (W : World) (v : Value) (L : List (List Int)) : Prop :=
  ∃ vs : List Value, W.ownsRow b 32 1 v L.length vs ∧ vs.length = L.length ∧ ∀ i (h : i < L.length), ∃ u, vs[i]? = some u ∧ W.ownsRow b 3 1 u L[i].length (cI L[i])
theorem Rw.nil (b : Nat) (W : World) : Rw b W (.slice none 0 0) [] := ⟨[], World.ownsRow_nil _ _ _ _, rfl, fun i h => by simp at h⟩
/-- Blocks that neither are cells of places nor ... are as they were. -/
theorem bx_stb {A B : World} {row : Option Nat} {lo : Nat} (hg : A.grownBy B row) (hr : ∀ r, row = some r → lo ≤ r ∧ ∃ o : Obj, A.heap[r]? = some o ∧ (o.isCells = false ∨ ∃ cs f, o = Obj.cells cs 50 f)) {k : Nat} {cs : Array Value} {t : TypeId} {f : Nat × Nat} (hk : A.heap[k]? = some (Obj.cells cs t f)) (ht : t ≠ 50) : B.heap[k]? = some (Obj.cells cs t f) := by
  refine (hg.block k (Array.getElem?_eq_some_iff.1 hk).1 fun e => ?_).trans hk
  obtain ⟨_, o, ho, h⟩ := hr k e.symm
  rw [hk] at ho
  cases ho
  rcases h with h | ⟨cs', f', h⟩
  · cases h
  · simp at h
    exact ht h.2.1
theorem own_stb {A B : World} (hk : ∀ (k : Nat) (cs : Array Value) (t : TypeId) (f : Nat × Nat), A.heap[k]? = some (Obj.cells cs t f) → t ≠ 50 → B.heap[k]? = some (Obj.cells cs t f)) {base e size n : Nat} {v : Value} {xs : List Value} (ho : A.ownsRow base e size v n xs) (he : e ≠ 50) : B.ownsRow base e size v n xs := by
  refine ⟨ho.1, ?_⟩
  rcases ho.2 with hn' | ⟨g, cap, cur, rfl, hb, hgg, rest⟩
  · exact .inl hn'
  · exact .inr ⟨g, cap, cur, rfl, hb, hk g _ _ _ hgg he, rest⟩
theorem Rw.stb {b : Nat} {A B : World} {v : Value} {L : List (List Int)} (h : Rw b A v L) (hk : ∀ (k : Nat) (cs : Array Value) (t : TypeId) (f : Nat × Nat), A.heap[k]? = some (Obj.cells cs t f) → t ≠ 50 → B.heap[k]? = some (Obj.cells cs t f)) : Rw b B v L := by
  obtain ⟨vs, h1, h2, h3⟩ := h
  exact ⟨vs, own_stb hk h1 (by decide), h2, fun i hi => by obtain ⟨u, hu, ho⟩ := h3 i hi; exact ⟨u, hu, own_stb hk ho (by decide)⟩⟩
theorem Rw.fr {b : Nat} {A B : World} {v : Value} {L : List (List Int)} {F : Nat → Prop} (h : Rw b A v L) (hf : Fr F A B) (hF : ∀ k, F k → ∀ t cs, Bx A k t cs → t ≠ 32 ∧ t ≠ 3) : Rw b B v L := by
  obtain ⟨vs, h1, h2, h3⟩ := h
  refine ⟨vs, own_kept h1 hf (fun k hk hFk => ?_), h2, fun i hi => ?_⟩
  · obtain ⟨cs, hc⟩ := own_at h1 hk
    exact (hF k hFk 32 cs hc).1 rfl
  · obtain ⟨u, hu, ho⟩ := h3 i hi
    refine ⟨u, hu, own_kept ho hf (fun k hk hFk => ?_)⟩
    obtain ⟨cs, hc⟩ := own_at ho hk
    exact (hF k hFk 3 cs hc).2 rfl
theorem Rw.below {b : Nat} {A B : World} {v : Value} {L : List (List Int)} (h : Rw b A v L) (hb : Below A.heap.size A B) : Rw b B v L := h.fr (F := fun _ => False) (Fr.of_below hb) (fun _ h => h.elim)
theorem Try.inf32 : (Try.prog.info? 32).map (fun i => (i.zero, i.size, i.bytes)) = some (some (.slice none 0 0), 1, 24) := by kernel_rfl

/-- What Match has in memory. -/
structure Ms (w X : World) (p b0 b1 b2 b3 b4 ld : Nat) (ask low : Ky) (v' : Value) (L : List (List Int)) : Prop where
  s : Bx X b0 24 #[.pointer (some ⟨p, 0, none⟩)]
  q : Bx X b1 47 ask.cs
  d : Bx X b2 3 #[.int .i64 (ld : Int)]
  o : Bx X b3 47 low.cs
  r : Bx X b4 34 #[v']
  rows : Rw w.heap.size X v' L
  below : Below w.heap.size w X
  ge : w.heap.size ≤ b4
theorem Ms.stb {w A B : World} {p b0 b1 b2 b3 b4 ld : Nat} {ask low : Ky} {v' : Value} {L : List (List Int)} (h : Ms w A p b0 b1 b2 b3 b4 ld ask low v' L) {row : Option Nat} {lo : Nat} (hg : A.grownBy B row) (hlo : w.heap.size ≤ lo) (hr : ∀ r, row = some r → lo ≤ r ∧ ∃ o : Obj, A.heap[r]? = some o ∧ (o.isCells = false ∨ ∃ cs f, o = Obj.cells cs 50 f)) : Ms w B p b0 b1 b2 b3 b4 ld ask low v' L :=
  ⟨bx_stb hg hr h.s (by decide), bx_stb hg hr h.q (by decide), bx_stb hg hr h.d (by decide), bx_stb hg hr h.o (by decide), bx_stb hg hr h.r (by decide), h.rows.stb (fun k cs t f hk ht => bx_stb hg hr hk ht),
    h.below.trans ⟨hg.os, hg.tape, hg.output, hg.size, fun k hk => hg.block k (Nat.lt_of_lt_of_le hk h.below.size) (fun e => by have := (hr k e.symm).1; omega)⟩, h.ge⟩
theorem Ms.bel {w A B : World} {p b0 b1 b2 b3 b4 ld : Nat} {ask low : Ky} {v' : Value} {L : List (List Int)} (h : Ms w A p b0 b1 b2 b3 b4 ld ask low v' L) (hb : Below A.heap.size A B) : Ms w B p b0 b1 b2 b3 b4 ld ask low v' L :=
  ⟨h.s.below hb, h.q.below hb, h.d.below hb, h.o.below hb, h.r.below hb, h.rows.below hb, h.below.trans (hb.mono h.below.size), h.ge⟩

/-- A row is appended to the rows, and the slice is stored. -/
theorem Ms.push {w A W8 : World} {p b0 b1 b2 b3 b4 ld : Nat} {ask low : Ky} {v' : Value} {L : List (List Int)} (h : Ms w A p b0 b1 b2 b3 b4 ld ask low v' L) (hl : L.length ≤ 1000000000) (hb : Below A.heap.size A W8) {u : Value} {r : List Int} (hu : W8.ownsRow A.heap.size 3 1 u r.length (cI r)) :
    ∃ g cap W9, (∀ ty, (Builtin.append_ #[34, 34] ty #[v', .slice (some ⟨W8.heap.size, 0, none⟩) 1 1]).run Try.prog (W8.alloc (.cells #[u] 32)) = .ok (.slice (some ⟨g, 0, none⟩) (L.length + 1) cap) W9) ∧
      W9.cell? ⟨b4, 0, none⟩ = some v' ∧ W9.frozen? ⟨b4, 0, none⟩ = false ∧ Ms w (W9.setCell ⟨b4, 0, none⟩ (.slice (some ⟨g, 0, none⟩) (L.length + 1) cap)) p b0 b1 b2 b3 b4 ld ask low (.slice (some ⟨g, 0, none⟩) (L.length + 1) cap) (L ++ [r]) ∧
      Kt A (W9.setCell ⟨b4, 0, none⟩ (.slice (some ⟨g, 0, none⟩) (L.length + 1) cap)) ∧ KeepsOthers A (W9.setCell ⟨b4, 0, none⟩ (.slice (some ⟨g, 0, none⟩) (L.length + 1) cap)) := by
  obtain ⟨i, hi, hz, hs, hby⟩ := info_parts Try.inf32
  have h8 := h.bel hb
  have h9 := h8.bel (below_box W8 (.cells #[u] 32))
  have hbA : Below A.heap.size A (W8.alloc (.cells #[u] 32)) := hb.trans ((below_box W8 _).mono hb.size)
  have hnew := Bx.new W8 #[u] 32
  have hu9 : (W8.alloc (.cells #[u] 32)).ownsRow A.heap.size 3 1 u r.length (cI r) := own_kept (F := fun _ => False) hu (Fr.of_below (below_box W8 _)) (fun _ _ => id)
  have hsz : (W8.alloc (.cells #[u] 32)).heap.size = W8.heap.size + 1 := by simp
  generalize W8.alloc (.cells #[u] 32) = WA at *
  obtain ⟨vs, hr1, hr2, hr3⟩ := h9.rows
  obtain ⟨v2, W9, hrun, hO, hg, _, hat⟩ := run_append_own_at (P := Try.prog) WA w.heap.size 34 34 32 i _ 1 24 Try.underlying34 hi hz hs hby rfl (by decide) v' L.length vs hr1 ⟨W8.heap.size, 0, none⟩ 1 1 [u] rfl (fun j x hj => by
    rw [Addr.add_lit, Nat.zero_add, hnew.c]
    simpa using hj) (by intro x hx; simp at hx; subst hx; exact own_one hu9) (by simp only [maxLen]; omega) (by omega) h9.below.size
  obtain ⟨g, cap, rfl⟩ : ∃ g cap, v2 = .slice (some ⟨g, 0, none⟩) (L.length + 1) cap := by
    rcases own_shape hO with ⟨_, h0⟩ | ⟨g, cap, e, _⟩
    · omega
    · exact ⟨g, cap, e⟩
  have hrow : ∀ k, v'.ownBlock = some k → ∃ cs, Bx WA k 32 cs := fun k hk => own_at hr1 hk
  have hfr : Fr (fun k => v'.ownBlock = some k) WA W9 := Fr.of_grown hg (fun k e => e)
  have hno : ∀ {b T cs}, Bx WA b T cs → T ≠ 32 → ¬ v'.ownBlock = some b := fun hB hT e => by
    obtain ⟨cs, hc⟩ := hrow _ e
    unfold Bx at hc hB
    rw [hB] at hc
    simp at hc
    exact hT hc.2
  have hr9 := h9.r.fr hfr (hno h9.r (by decide))
  have hf4 : Fr (fun k => k = b4) W9 (W9.setCell ⟨b4, 0, none⟩ (.slice (some ⟨g, 0, none⟩) (L.length + 1) cap)) := Fr.one _ _ _ _
  have hne4 : ∀ {b T cs}, Bx W9 b T cs → T ≠ 34 → ¬ b = b4 := fun hB hT e => by
    subst e
    unfold Bx at hB
    have := hr9
    unfold Bx at this
    rw [hB] at this
    simp at this
    exact hT this.2
  have keep : ∀ {b T cs}, Bx WA b T cs → T ≠ 32 → T ≠ 34 → Bx (W9.setCell ⟨b4, 0, none⟩ (.slice (some ⟨g, 0, none⟩) (L.length + 1) cap)) b T cs := fun hB h1 h2 => by
    have h3 := hB.fr hfr (hno hB h1)
    exact h3.fr hf4 (hne4 h3 h2)
  have hgb : ∀ k, v'.ownBlock = some k → w.heap.size ≤ k := fun k hk => (hr1.lt k hk).1
  refine ⟨g, cap, W9, fun ty => hrun, hr9.c 0, hr9.f 0, ⟨keep h9.s (by decide) (by decide), keep h9.q (by decide) (by decide), keep h9.d (by decide) (by decide), keep h9.o (by decide) (by decide), hr9.set 0 _, ⟨vs ++ [u], ?_, by simp [hr2], fun j hj => ?_⟩, ?_, h.ge⟩, ?_, ?_⟩
  · have hO2 : W9.ownsRow w.heap.size 32 1 (.slice (some ⟨g, 0, none⟩) (L.length + 1) cap) (L ++ [r]).length (vs ++ [u]) := by rw [List.length_append]; exact hO
    refine own_kept hO2 hf4 (fun k hk e => ?_)
    obtain ⟨cs, hc⟩ := own_at hO2 hk
    exact hne4 hc (by decide) e
  · have hkeep3 : ∀ {n' : Nat} {x : Value} {ys : List Value}, WA.ownsRow w.heap.size 3 1 x n' ys → (W9.setCell ⟨b4, 0, none⟩ (.slice (some ⟨g, 0, none⟩) (L.length + 1) cap)).ownsRow w.heap.size 3 1 x n' ys := fun ho => by
      have o1 := own_kept ho hfr (fun k hk e => by
        obtain ⟨cs, hc⟩ := own_at ho hk
        exact hno hc (by decide) e)
      refine own_kept o1 hf4 (fun k hk e => ?_)
      obtain ⟨cs, hc⟩ := own_at o1 hk
      exact hne4 hc (by decide) e
    by_cases hjl : j < L.length
    · obtain ⟨x, hx, ho⟩ := hr3 j hjl
      refine ⟨x, by rw [List.getElem?_append_left (by omega)]; exact hx, ?_⟩
      rw [List.getElem_append_left hjl]
      exact hkeep3 ho
    · have hjl2 : j = L.length := by simp at hj; omega
      subst hjl2
      refine ⟨u, by rw [← hr2]; simp, ?_⟩
      simp only [List.getElem_append_right (Nat.le_refl _), Nat.sub_self, List.getElem_cons_zero]
      exact hkeep3 (own_base hu9 (fun k hk => Nat.le_trans h.below.size (hu9.lt k hk).1))
  · refine h9.below.trans ((hfr.below (B := w.heap.size) (fun k hk => hgb k hk) h9.below.size).trans ?_)
    exact (Below.refl _ W9).setCell (p := ⟨b4, 0, none⟩) h.ge _
  · intro k cs t f hk h1 h2
    have hkA : WA.heap[k]? = some (Obj.cells cs t f) := (hbA.block k (Array.getElem?_eq_some_iff.1 hk).1).trans hk
    have hk9 : W9.heap[k]? = some (Obj.cells cs t f) := (hfr.block k (Array.getElem?_eq_some_iff.1 hkA).1 (fun e => by
      obtain ⟨cs', hc⟩ := hrow k e
      unfold Bx at hc
      rw [hkA] at hc
      simp at hc
      exact h1 hc.2.1)).trans hkA
    refine (hf4.block k (Array.getElem?_eq_some_iff.1 hk9).1 (fun e => ?_)).trans hk9
    subst e
    have h3 := hr9
    unfold Bx at h3
    rw [hk9] at h3
    simp at h3
    exact h2 h3.2.1
  · refine ⟨Nat.le_trans hbA.size (Nat.le_trans hg.size (by simp [World.setCell])), fun k o hk ho => ?_⟩
    have hkA : WA.heap[k]? = some o := (hbA.block k (Array.getElem?_eq_some_iff.1 hk).1).trans hk
    have hk9 : W9.heap[k]? = some o := (hfr.block k (Array.getElem?_eq_some_iff.1 hkA).1 (fun e => by
      obtain ⟨cs', hc⟩ := hrow k e
      unfold Bx at hc
      rw [hkA] at hc
      cases hc
      cases ho)).trans hkA
    refine (hf4.block k (Array.getElem?_eq_some_iff.1 hk9).1 (fun e => ?_)).trans hk9
    subst e
    have h3 := hr9
    unfold Bx at h3
    rw [hk9] at h3
    cases h3
    cases ho
end Go.Proofs.Ytfjcadkihnecdaa
namespace Go.Proofs.Ytfjcadkihnecdaa
open Go.RowKit Go.Shelf

/-- The marks that loops over functions leave. -/
def marks (dl : List Nat) : List Deferred := dl.map fun D => { target := .collected D, args := #[] }
/-- A frame that leaves with marks alone. -/
theorem leaves_marks {F : Fence} {n : Nat} {P : Program} {fn : Func} {tmps : Array Value} {R : Ending → World → Prop} : ∀ (dl : List Nat) (W : World), (∀ D ∈ dl, W.heap[D]? = some (.deferred (some []))) → dl.Nodup →
    (∀ W', Fr (fun k => k ∈ dl) W W' → LeavesIn F n P fn tmps R [] .returning W') → LeavesInM F n P fn tmps R (marks dl) .returning W := by
  intro dl
  induction dl with
  | nil => intro W _ _ h; exact h W (Fr.refl _ _)
  | cons D dl ih =>
    intro W hd hn h
    have hK := hd D (by simp)
    have hlt : D < W.heap.size := (Array.getElem?_eq_some_iff.1 hK).1
    obtain ⟨hD, hn⟩ := List.nodup_cons.1 hn
    have hF : Fr (fun k => k = D) W (W.putObj D (.deferred none)) := ⟨rfl, rfl, rfl, by simp [World.putObj], fun k hk hne => World.putObj_heap_other hne⟩
    refine ⟨by simp, .inl ⟨D, _, rfl, run_takeDeferred hK, ?_⟩⟩
    refine ih _ (fun E hE => ?_) hn (fun W' hW' => ?_)
    · rw [World.putObj_heap_other (fun e : E = D => hD (e ▸ hE))]
      exact hd E (by simp [hE])
    · refine h W' ((hF.mono (G := fun k => k ∈ D :: dl) (fun x _ e => by simp [e])).trans hW' (fun x _ e => by simp [e]))
theorem upon_via {F : Fence} {n : Nat} {P : Program} {o : Oper} {a : Act} {K : Act → World → Prop} {Q : Exit → Act → World → Prop} {E L R : Result Next} (hL : L = R) (h : Oper.uponIn F n P o a K Q R) (hE : L = E) : Oper.uponIn F n P o a K Q E := by
  rw [← hE, hL]
  exact h
theorem At.lt {A B : List Pg} {k : Ky} {at' : Nat} {f : Bool} (h : At A B k at' f) (hne : ∀ z ∈ A ++ B, z.ks ≠ []) : ∀ z T, B = z :: T → at' < z.ks.length := fun z T e => by
  obtain ⟨C, D, hks, hat, _, hC, _⟩ := h.some z T e
  have hl := h.post z (by rw [e]; simp)
  have hm := lastK_mem z (hne z (by rw [e]; simp))
  cases D with
  | nil =>
    rw [hks, List.append_nil] at hm
    exact absurd (hC _ hm) hl
  | cons x D => rw [hat, hks]; simp
/-- The keys ahead of a place are below, those from it on are not. -/
theorem At.part {A B : List Pg} {k : Ky} {at' : Nat} {f : Bool} (h : At A B k at' f) (hne : ∀ z ∈ A ++ B, z.ks ≠ []) (hup : (keys (A ++ B)).Pairwise LtK) : ∃ Pre, keys (A ++ B) = Pre ++ (left B at').flatten ∧ (∀ x ∈ Pre, cmpL x.l k.l < 0) ∧ ∀ x ∈ (left B at').flatten, ¬ cmpL x.l k.l < 0 := by
  rw [keys_append] at hup ⊢
  obtain ⟨hu1, hu2, hu12⟩ := List.pairwise_append.1 hup
  have hA : ∀ x ∈ keys A, cmpL x.l k.l < 0 := fun x hx => by
    obtain ⟨z, hz, hxz⟩ := List.mem_flatMap.1 hx
    have hzp : z.ks.Pairwise LtK := hu1.sublist (by
      obtain ⟨a, b, rfl⟩ := List.append_of_mem hz
      rw [keys_append, keys_cons]
      exact (List.sublist_append_left _ _).trans (List.sublist_append_right _ _))
    rcases le_last z.ks hzp x hxz ⟨0, 0, 0, 0⟩ with e | e
    · rw [e]; exact h.pre z hz
    · exact cmpL_trans e (h.pre z hz)
  cases B with
  | nil => exact ⟨keys A, by simp [left, keys], hA, by simp [left]⟩
  | cons z T =>
    obtain ⟨C, D, hks, hat, _, hC, hD⟩ := h.some z T rfl
    have hxs : (left (z :: T) at').flatten = D ++ keys T := by rw [left_flat, hat, hks]; simp
    rw [hxs, keys_cons, hks]
    refine ⟨keys A ++ C, by simp, fun x hx => ?_, fun y hy => ?_⟩
    · rcases List.mem_append.1 hx with hx | hx
      · exact hA x hx
      · exact hC x hx
    · rcases List.mem_append.1 hy with hy | hy
      · exact hD y hy
      · intro hlt
        rw [keys_cons] at hu2
        exact h.post z (by simp) (cmpL_trans ((List.pairwise_append.1 hu2).2.2 _ (lastK_mem z (hne z (by simp))) y hy) hlt)

def rowOf (wd : Nat) (k : Ky) : List Int := k.l.take wd
theorem rows_of {R : List (List Int)} {wd : Nat} {r : List Int} (hw : ∀ x ∈ R, x.length = wd) (h4 : wd ≤ 4) (hr : r.length = wd) : ((R.map kyOf).filter fun k => ansB (kyOf r).l k.l).map (rowOf wd) = R.filter (ansB r) := by
  induction R with
  | nil => rfl
  | cons x R ih =>
    have hx := hw x (by simp)
    have ih' := ih (fun y hy => hw y (by simp [hy]))
    have e1 : ansB (kyOf r).l (kyOf x).l = ansB r x := ans_kyOf (by omega) (by omega)
    have e2 : rowOf wd (kyOf x) = x := by unfold rowOf; rw [← hx]; exact kyOf_take x (by omega)
    rw [List.map_cons, List.filter_cons, List.filter_cons, e1]
    split
    · rw [List.map_cons, ih', e2]
    · exact ih'

/-- Of the keys from the place on: a front that begins so, and then none that does. -/
theorem match_rows {R : List (List Int)} {wd : Nat} {r : List Int} (hup : Up R) (hw : ∀ x ∈ R, x.length = wd) (h4 : wd ≤ 4) (hm : ∀ x ∈ R, ∀ n ∈ x, -9223372036854775808 ≤ n) (hr : r.length = wd) {Pre B C : List Ky} {low : Ky} (hlow : low.l = lowL (kyOf r).l (leadN (kyOf r).l)) (e : R.map kyOf = Pre ++ (B ++ C))
    (h1 : ∀ x ∈ Pre, cmpL x.l low.l < 0) (h2 : ∀ x ∈ B ++ C, ¬ cmpL x.l low.l < 0) (hC : ∀ k q, C = k :: q → k.l.take (leadN (kyOf r).l) ≠ low.l.take (leadN (kyOf r).l)) :
    (B.filter fun k => ansB (kyOf r).l k.l).map (rowOf wd) = R.filter (ansB r) := by
  have hupk := up_keys hup hw h4
  rw [e] at hupk
  have hll : low.l.take (leadN (kyOf r).l) = (kyOf r).l.take (leadN (kyOf r).l) := by rw [hlow]; exact low_take _ _ (leadN_le _)
  have key := match_same (kyOf r).l Pre B C rfl (fun k hk n hn => by
    have : k ∈ R.map kyOf := by rw [e]; simp [hk]
    obtain ⟨x, hx, rfl⟩ := List.mem_map.1 this
    rw [kyOf_l x (by rw [hw x hx]; exact h4)] at hn
    rcases List.mem_append.1 hn with hn | hn
    · exact hm x hx n hn
    · rw [(List.mem_replicate.1 hn).2]; decide) (fun k hk => by rw [← hlow]; exact h1 k hk) (List.pairwise_append.1 hupk).2.1 (fun k q hq => ⟨by rw [← hlow]; exact h2 k (by rw [hq]; simp), by rw [← hll]; exact hC k q hq⟩)
  rw [← rows_of hw h4 hr, e, ← key, List.append_assoc]

set_option maxRecDepth 100000 in
set_option maxHeartbeats 8000000 in
theorem match_in (n : Nat) (hn : 3 ≤ n) {w : World} {p wd : Nat} {F : Nat → Prop} {R : List (List Int)} (h : St w p wd F R) (vr : Value) (r : List Int) (hr : Is w vr r) (hrw : r.length = wd) (hl : R.length ≤ 1000000000) :
    CallsIn Fence.wide n Try.prog 13 #[.pointer (some ⟨p, 0, none⟩), vr] w fun e W' => ∃ v', e = .returned v' ∧ Rw w.heap.size W' v' (R.filter (ansB r)) ∧ Below w.heap.size w W' := by
  obtain ⟨v, zs, rfl, h⟩ := h
  have h4 := h.le
  have hB0 := below_box w (.cells #[.pointer (some ⟨p, 0, none⟩)] 24)
  have HF := hide (fits_some p wd v vr r _ (h.box.below hB0) (hr.below hB0))
  rw [decide_eq_true hrw] at HF
  have HK : Hid (∀ W, Below w.heap.size w W → Calls Try.prog 19 #[vr] W fun e w' => e = .returned (kv (kyOf r)) ∧ Below W.heap.size W w') := fun W hW => keyOf_any vr r W (hr.below hW) (by omega)
  obtain ⟨ask, hask⟩ : ∃ ask, kyOf r = ask := ⟨_, rfl⟩
  rw [hask] at HK
  have HL : Hid (∀ W, Calls Try.prog 23 #[kv ask] W fun e w' => e = .returned (.int .i64 (leadN ask.l : Int)) ∧ Below W.heap.size W w') := fun W => lead_any ask W
  have hld : leadN ask.l ≤ 4 := leadN_le _
  have HW : Hid (∀ W, Calls Try.prog 24 #[kv ask, .int .i64 (leadN ask.l : Int)] W fun e w' => ∃ q : Ky, q.l = lowL ask.l (leadN ask.l) ∧ e = .returned (kv q) ∧ Below W.heap.size W w') := fun W => low_any ask _ hld W
  have HSV := hide h
  have h1 : 1 ≤ n := by omega
  have HRW := hide hrw
  have HASK := hide hask
  have HLL := hide hl
  obtain ⟨ao, cap, rfl, -⟩ := hr
  clear hrw hask h hl
  refine callsIn_of_wp_marks Try.func13 rfl trivial ?_ rfl
  simp only [Try.ntmps13, List.size_toArray, List.length_cons, List.length_nil, Nat.reduceAdd, Nat.reduceSub, Array.replicate_succ, Array.replicate_zero, List.push_toArray, List.append_toArray, List.nil_append, List.cons_append]
  gi_wp2
  refine ⟨trivial, ?_⟩
  refine (callsIn_wide.2 HF.out).mono ?_
  rintro e w' ⟨rfl, hw'⟩
  subst hw'
  have S0 := hide (Bx.new w #[.pointer (some ⟨p, 0, none⟩)] 24)
  have HB0 := hide hB0
  clear hB0 HF
  gi_wp2
  refine ⟨trivial, ?_⟩
  refine (callsIn_wide.2 (HK.out _ HB0.out)).mono ?_
  rintro e w5 ⟨rfl, hb5⟩
  have B5 := hide (HB0.out.trans (hb5.mono HB0.out.size))
  have S5' := hide (S0.out.below hb5)
  clear hb5 S0 HB0 HK
  gi_wp2
  refine ⟨trivial, ?_⟩
  refine (callsIn_wide.2 (HL.out _)).mono ?_
  rintro e w6 ⟨rfl, hb6⟩
  have Q6 := hide ((Bx.new w5 #[.int .i64 ask.a, .int .i64 ask.b, .int .i64 ask.c, .int .i64 ask.d] 47).below hb6)
  have S6 := hide ((S5'.out.below (below_box w5 _)).below hb6)
  have B6 := hide ((B5.out.trans ((below_box w5 (.cells #[.int .i64 ask.a, .int .i64 ask.b, .int .i64 ask.c, .int .i64 ask.d] 47)).mono B5.out.size)).trans (hb6.mono (Nat.le_trans B5.out.size (by simp))))
  have x0 := Q6.out.c 0
  have x1 := Q6.out.c 1
  have x2 := Q6.out.c 2
  have x3 := Q6.out.c 3
  simp at x0 x1 x2 x3
  have x0a : ∀ o, (w6.alloc o).cell? ⟨w5.heap.size, 0, none⟩ = some _ := fun o => cell_below' x0 (below_box _ o)
  have x1a : ∀ o, (w6.alloc o).cell? ⟨w5.heap.size, 1, none⟩ = some _ := fun o => cell_below' x1 (below_box _ o)
  have x2a : ∀ o, (w6.alloc o).cell? ⟨w5.heap.size, 2, none⟩ = some _ := fun o => cell_below' x2 (below_box _ o)
  have x3a : ∀ o, (w6.alloc o).cell? ⟨w5.heap.size, 3, none⟩ = some _ := fun o => cell_below' x3 (below_box _ o)
  clear hb6 S5' B5 HL
  gi_wp2
  refine ⟨trivial, ?_⟩
  refine (callsIn_wide.2 (HW.out _)).mono ?_
  rintro e w7 ⟨low, hlow, rfl, hb7⟩
  have HLOW := hide hlow
  have Q7 := hide ((Q6.out.below (below_box w6 _)).below hb7)
  have S7 := hide ((S6.out.below (below_box w6 _)).below hb7)
  have D7 := hide ((Bx.new w6 #[.int .i64 (leadN ask.l : Int)] 3).below hb7)
  have B7 := hide ((B6.out.trans ((below_box w6 (.cells #[.int .i64 (leadN ask.l : Int)] 3)).mono B6.out.size)).trans (hb7.mono (Nat.le_trans B6.out.size (by simp))))
  clear hb7 Q6 S6 B6 x0 x1 x2 x3 x0a x1a x2a x3a HW hlow
  gi_wp2
  have HMs : Hid (Ms w ((w7.alloc (.cells #[.int .i64 low.a, .int .i64 low.b, .int .i64 low.c, .int .i64 low.d] 47)).alloc (.cells #[.slice none 0 0] 34)) p w.heap.size w5.heap.size w6.heap.size w7.heap.size (w7.heap.size + 1) (leadN ask.l) ask low (.slice none 0 0) []) := by
    have r1 := Bx.new (w7.alloc (.cells #[.int .i64 low.a, .int .i64 low.b, .int .i64 low.c, .int .i64 low.d] 47)) #[.slice none 0 0] 34
    rw [World.size_alloc] at r1
    exact ⟨S7.out.below (below_box2 _ _ _), Q7.out.below (below_box2 _ _ _), D7.out.below (below_box2 _ _ _), (Bx.new w7 low.cs 47).below (below_box _ _), r1, Rw.nil _ _, B7.out.trans ((below_box2 w7 _ _).mono B7.out.size), Nat.le_trans B7.out.size (by omega)⟩
  have hw7 : w.heap.size ≤ w7.heap.size := B7.out.size
  generalize (w7.alloc (.cells #[.int .i64 low.a, .int .i64 low.b, .int .i64 low.c, .int .i64 low.d] 47)).alloc (.cells #[.slice none 0 0] 34) = W8 at *
  generalize w7.heap.size = b3 at *
  generalize w6.heap.size = b2 at *
  generalize w5.heap.size = b1 at *
  clear S7 Q7 D7 B7
  have s0 := HMs.out.s.c 0
  have y0 := HMs.out.o.c 0
  have y1 := HMs.out.o.c 1
  have y2 := HMs.out.o.c 2
  have y3 := HMs.out.o.c 3
  have c1 := (HSV.out.box.below HMs.out.below).c 1
  simp [Ky.cs] at s0 y0 y1 y2 y3 c1
  obtain ⟨ao2, N2, cap2, hv2⟩ := own_slice HSV.out.pgs.row
  subst hv2
  have hmix : Try.prog.follows Departure.mixedOrders = true := by kernel_rfl
  refine wpIn_mono (Q := NoPanic (fun e a' w' => e = .normal ∧ a' = { tmps := #[.pointer (some ⟨p, 0, none⟩), .slice ao r.length cap, .pointer (some ⟨w.heap.size, 0, none⟩), undef, .slice none 0 0, .pointer (some ⟨b1, 0, none⟩), .pointer (some ⟨b2, 0, none⟩), .pointer (some ⟨b3, 0, none⟩), .pointer (some ⟨b3 + 1, 0, none⟩), undef, .pointer (some ⟨p, 0, none⟩), .slice ao r.length cap, .bool true, .bool false, .slice ao r.length cap, kv ask, .agg #[.int .i64 ask.a, .int .i64 ask.b, .int .i64 ask.c, .int .i64 ask.d], .int .i64 (leadN ask.l : Int), .agg #[.int .i64 ask.a, .int .i64 ask.b, .int .i64 ask.c, .int .i64 ask.d], .int .i64 (leadN ask.l : Int), kv low, .pointer (some ⟨p, 0, none⟩), .pointer (some ⟨p, 0, none⟩), .pointer (some ⟨p, 1, none⟩), .slice ao2 N2 cap2, .agg #[.int .i64 low.a, .int .i64 low.b, .int .i64 low.c, .int .i64 low.d], .func (.func 40) #[] #[.pointer (some ⟨W8.heap.size, 0, none⟩), .pointer (some ⟨W8.heap.size + 1, 0, none⟩)], undef, undef, undef, undef, undef, undef, undef, undef, undef, undef, undef, undef, undef, undef, undef, undef, undef, undef, undef], defers := [] } ∧ w' = ((W8.alloc (.cells #[.slice ao2 N2 cap2] 43)).alloc (.cells #[.int .i64 low.a, .int .i64 low.b, .int .i64 low.c, .int .i64 low.d] 47)).drew)) ?reg ?rst
  case reg =>
    gi_region_with_o (refine ⟨trivial, ?_⟩; refine (from_in (n - 1) _ _ _ low _).mono ?_; rintro e w9 ⟨rfl, hw9⟩; subst hw9)
    all_goals refine NoPanic.normal ?_
    all_goals exact ⟨rfl, rfl, rfl⟩
  case rst =>
    rintro e a' w' hnp
    obtain ⟨rfl, rfl, rfl⟩ := NoPanic.imp _ _ _ hnp
    clear hnp s0 y0 y1 y2 y3 c1 hmix
    gi_wp2
    have HM9 := hide ((HMs.out.bel (below_box2 W8 (.cells #[.slice ao2 N2 cap2] 43) (.cells low.cs 47))).bel (Below.refl _ _).drew)
    have P9 : Hid (Bx ((W8.alloc (.cells #[.slice ao2 N2 cap2] 43)).alloc (.cells low.cs 47)).drew W8.heap.size 43 #[.slice ao2 N2 cap2]) := ((Bx.new W8 #[.slice ao2 N2 cap2] 43).below (below_box _ (.cells low.cs 47))).below (Below.refl _ _).drew
    have L9 : Hid (Bx ((W8.alloc (.cells #[.slice ao2 N2 cap2] 43)).alloc (.cells low.cs 47)).drew (W8.heap.size + 1) 47 low.cs) := by
      have := Bx.new (W8.alloc (.cells #[.slice ao2 N2 cap2] 43)) low.cs 47
      rw [World.size_alloc] at this
      exact this
    simp only [Ky.cs] at HM9 P9 L9
    generalize ((W8.alloc (.cells #[.slice ao2 N2 cap2] 43)).alloc (.cells #[.int .i64 low.a, .int .i64 low.b, .int .i64 low.c, .int .i64 low.d] 47)).drew = W9 at *
    have hupk := up_keys HSV.out.up HSV.out.wid HSV.out.le
    rw [← HSV.out.ks] at hupk
    obtain ⟨A, B, at', f, hzs, hat⟩ := at_some zs low HSV.out.ne hupk
    have hne := HSV.out.ne
    have hks := HSV.out.ks
    have hsz := HSV.out.size
    have hPg := HSV.out.pgs.below HM9.out.below
    rw [hzs] at hne hupk hks hsz hPg
    obtain ⟨Pre, hpart, hpre, hpost⟩ := hat.part hne hupk
    rw [hpart] at hks
    have HKS := hide hks
    have HPRE := hide hpre
    have HPOST := hide hpost
    have HGV := hide (from_gives (n - 1) (by omega) W8.heap.size (W8.heap.size + 1) (.slice ao2 N2 cap2) A B low at' f W9 P9.out L9.out hPg hne (fun z hz => by have := hsz.1 z hz; have := HLL.out; omega) (by have := hsz.2; have := HLL.out; omega) hat (hat.lt hne))
    have h9 := HM9.out.below.size
    have HLN : Hid (∀ pre x rest, (left B at').flatten = pre ++ x :: rest → ((pre.filter fun k => ansB ask.l k.l).map (rowOf wd)).length ≤ 1000000000) := fun pre x rest e => by
      have e2 := congrArg List.length HKS.out
      rw [e, List.length_map] at e2
      have h3 := List.length_filter_le (fun k => ansB ask.l k.l) pre
      have := HLL.out
      simp at e2 ⊢
      omega
    clear hks hpre hpost hne hupk hsz hPg hzs hat hpart
    generalize (left B at').flatten = xs at *
    refine range_over h1 (gf := 40) (lb := #[.pointer (some ⟨W8.heap.size, 0, none⟩), .pointer (some ⟨W8.heap.size + 1, 0, none⟩)]) rfl (enters_of Try.func40 (by kernel_rfl) rfl) HGV.out Kt.trans Kt.put (fun W o => Kt.of_below (below_box W o)) (Below.refl _ _) rfl
      (fun pre X => (∃ v', Hid (Ms w X p w.heap.size b1 b2 b3 (b3 + 1) (leadN ask.l) ask low v' ((pre.filter fun k => ansB ask.l k.l).map (rowOf wd)))) ∧ (∀ x ∈ pre, x.l.take (leadN ask.l) = low.l.take (leadN ask.l)))
      (fun id s X => id = 0 ∧ ∃ pre x, s = pre ++ [x] ∧ x.l.take (leadN ask.l) ≠ low.l.take (leadN ask.l) ∧ (∃ v', Hid (Ms w X p w.heap.size b1 b2 b3 (b3 + 1) (leadN ask.l) ask low v' ((pre.filter fun k => ansB ask.l k.l).map (rowOf wd)))) ∧ (∀ x ∈ pre, x.l.take (leadN ask.l) = low.l.take (leadN ask.l)))
      (fun s X Y row hs hg hr => ⟨by obtain ⟨v', hv⟩ := hs.1; exact ⟨v', hv.out.stb hg h9 hr⟩, hs.2⟩)
      (fun c s X Y row hs hg hr => by obtain ⟨hc, pre, x, e, hx, ⟨v', hv⟩, hb⟩ := hs; exact ⟨hc, pre, x, e, hx, ⟨v', hv.out.stb hg h9 hr⟩, hb⟩)
      ⟨⟨_, HM9⟩, by simp⟩
      (fun x b => { tmps := #[.pointer (some ⟨p, 0, none⟩), .slice ao r.length cap, .pointer (some ⟨w.heap.size, 0, none⟩), undef, .slice none 0 0, .pointer (some ⟨b1, 0, none⟩), .pointer (some ⟨b2, 0, none⟩), .pointer (some ⟨b3, 0, none⟩), .pointer (some ⟨b3 + 1, 0, none⟩), .pointer (some ⟨b, 0, none⟩), .pointer (some ⟨p, 0, none⟩), .slice ao r.length cap, .bool true, .bool false, .slice ao r.length cap, kv ask, .agg #[.int .i64 ask.a, .int .i64 ask.b, .int .i64 ask.c, .int .i64 ask.d], .int .i64 (leadN ask.l : Int), .agg #[.int .i64 ask.a, .int .i64 ask.b, .int .i64 ask.c, .int .i64 ask.d], .int .i64 (leadN ask.l : Int), kv low, .pointer (some ⟨p, 0, none⟩), .pointer (some ⟨p, 0, none⟩), .pointer (some ⟨p, 1, none⟩), .slice ao2 N2 cap2, .agg #[.int .i64 low.a, .int .i64 low.b, .int .i64 low.c, .int .i64 low.d], .func (.func 40) #[] #[.pointer (some ⟨W8.heap.size, 0, none⟩), .pointer (some ⟨W8.heap.size + 1, 0, none⟩)], kv x, undef, undef, undef, undef, undef, undef, undef, undef, undef, undef, undef, undef, undef, undef, undef, undef, undef, undef], defers := [] }) ?assign ?body ?done ?stop
    case assign =>
      intro l' x X K hK
      have hsem := @Oper.semAt_some
      gi_wp2
      exact hK
    case body =>
      rintro l' pre x rest b X hx ⟨⟨v', HM⟩, hbeg⟩ hbx hb
      have hsem := @Oper.semAt_some
      have HBG := hide hbeg
      have HBX := hide hbx
      have HLEN := hide (HLN.out pre x rest hx)
      have HBN : Hid (∀ W, Calls Try.prog 26 #[kv x, kv low, .int .i64 (leadN ask.l : Int)] W fun e w' => e = .returned (.bool (decide (x.l.take (leadN ask.l) = low.l.take (leadN ask.l)))) ∧ Below W.heap.size W w') := fun W => begins_any x low _ hld W
      have HAN : Hid (∀ W, Calls Try.prog 27 #[kv x, kv ask] W fun e w' => e = .returned (.bool (ansB ask.l x.l)) ∧ Below W.heap.size W w') := fun W => answers_any x ask W
      have HRO : Hid (∀ W, Calls Try.prog 28 #[kv x, .int .i64 (wd : Int)] W fun e w' => ∃ v, e = .returned v ∧ w'.ownsRow W.heap.size 3 1 v wd (cI (rowOf wd x)) ∧ Below W.heap.size W w') := fun W => row_any x wd h4 W
      have k0 := hbx.c 0
      have k1 := hbx.c 1
      have k2 := hbx.c 2
      have k3 := hbx.c 3
      have y0 := HM.out.o.c 0
      have y1 := HM.out.o.c 1
      have y2 := HM.out.o.c 2
      have y3 := HM.out.o.c 3
      have d0 := HM.out.d.c 0
      simp [Ky.cs] at k0 k1 k2 k3 y0 y1 y2 y3 d0
      clear hbx hbeg hx
      gi_wp2
      refine ⟨trivial, fun _ => by omega, ?_⟩
      refine (CallsIn.inRound l' (callsIn_wide.2 (HBN.out X))).mono ?_
      rintro e w1 ⟨rfl, hb1⟩
      have HB1 := hide hb1
      have HM1 := hide (HM.out.bel hb1)
      have HX1 := hide (HBX.out.below hb1)
      clear hb1 k0 k1 k2 k3 y0 y1 y2 y3 d0
      have k0 := HX1.out.c 0
      have k1 := HX1.out.c 1
      have k2 := HX1.out.c 2
      have k3 := HX1.out.c 3
      have q0 := HM1.out.q.c 0
      have q1 := HM1.out.q.c 1
      have q2 := HM1.out.q.c 2
      have q3 := HM1.out.q.c 3
      simp [Ky.cs] at k0 k1 k2 k3 q0 q1 q2 q3
      by_cases hbg : x.l.take (leadN ask.l) = low.l.take (leadN ask.l)
      · rw [decide_eq_true hbg]
        have HBG2 : Hid (∀ y ∈ pre ++ [x], y.l.take (leadN ask.l) = low.l.take (leadN ask.l)) := fun y hy => by
          rcases List.mem_append.1 hy with hy | hy
          · exact HBG.out y hy
          · rw [List.mem_singleton.1 hy]; exact hbg
        clear hbg
        gi_wp2
        refine ⟨trivial, fun _ => by omega, ?_⟩
        refine (CallsIn.inRound l' (callsIn_wide.2 (HAN.out w1))).mono ?_
        rintro e w2 ⟨rfl, hb2⟩
        have HB2 := hide (HB1.out.trans (hb2.mono HB1.out.size))
        have HM2 := hide (HM1.out.bel hb2)
        have HX2 := hide (HX1.out.below hb2)
        clear hb2 k0 k1 k2 k3 q0 q1 q2 q3
        have HFL := hide (List.filter_append (p := fun k : Ky => ansB ask.l k.l) (l₁ := pre) (l₂ := [x]))
        cases hans : ansB ask.l x.l with
        | false =>
          have HFL2 : Hid ((pre ++ [x]).filter (fun k => ansB ask.l k.l) = pre.filter (fun k => ansB ask.l k.l)) := by
            show _ = _
            rw [HFL.out]
            simp [hans]
          clear hans HFL
          gi_wp2
          exact ⟨⟨HB2.out.size, fun k o _ hk _ => (HB2.out.block k (Array.getElem?_eq_some_iff.1 hk).1).trans hk⟩, Kt.of_below HB2.out, ⟨v', by rw [HFL2.out]; exact HM2⟩, HBG2.out⟩
        | true =>
          have HFL2 : Hid (((pre ++ [x]).filter (fun k => ansB ask.l k.l)).map (rowOf wd) = (pre.filter (fun k => ansB ask.l k.l)).map (rowOf wd) ++ [rowOf wd x]) := by
            show _ = _
            rw [HFL.out]
            simp [hans]
          clear hans HFL
          have k0 := HX2.out.c 0
          have k1 := HX2.out.c 1
          have k2 := HX2.out.c 2
          have k3 := HX2.out.c 3
          have s0 := HM2.out.s.c 0
          have r0 := HM2.out.r.c 0
          have c0 := (HSV.out.box.below HM2.out.below).c 0
          simp [Ky.cs] at k0 k1 k2 k3 s0 r0 c0
          have hmix : Try.prog.follows Departure.mixedOrders = true := by kernel_rfl
          have HMd := hide (HM2.out.bel (Below.refl _ w2).drew)
          have HRL : Hid ((rowOf wd x).length = wd) := by
            show _ = _
            unfold rowOf
            rw [List.length_take, Ky.len]
            omega
          clear HMs HM9 P9 L9 HGV HKS HPRE HPOST HLOW HASK HRW HLL HLN HM1 HX1 HB1 HM HX2 HBX HBG HBN HAN HSV HM2 hb h9 hw7
          obtain ⟨nL, hnL⟩ : ∃ nL, ((pre.filter fun k => ansB ask.l k.l).map (rowOf wd)).length = nL := ⟨_, rfl⟩
          have HnL := hide hnL
          clear hnL
          gi_wp2
          gi_region_with_o (first | (refine upon_via (L := ((Builtin.append_ #[34, 34] 34 #[v', .slice (some ⟨w3.heap.size, 0, none⟩) 1 1]).run Try.prog (w3.alloc (.cells #[.slice aou nu capu] 32))).andThen (fun a w' => .ok (Next.value a) w')) (R := .ok (.value (.slice (some ⟨g9, 0, none⟩) (nL + 1) cap9)) W10) (by rw [HAP.out 34]; rfl) ?_ (by go_simp); simp only [Oper.uponIn_value]) | (refine ⟨trivial, fun _ => by omega, ?_⟩; refine (CallsIn.inRound l' (callsIn_wide.2 (HRO.out w2.drew))).mono ?_; rintro e w3 ⟨u, rfl, hu, hb3⟩; obtain ⟨aou, nu, capu, hus⟩ := own_slice hu; subst hus; have hm3 := HMd.out.bel hb3; have r3 := hm3.r.c 0; simp only [List.getElem?_toArray, List.getElem?_cons_zero] at r3; have r3a : ∀ o, (w3.alloc o).cell? ⟨b3 + 1, 0, none⟩ = some _ := fun o => cell_below' r3 (below_box _ o); obtain ⟨g9, cap9, W10, hap, r9, f9, hM4, hK4, hKO⟩ := HMd.out.push HLEN.out hb3 (r := rowOf wd x) (by rw [HRL.out]; exact hu); rw [HnL.out] at hap hM4 hK4 hKO; have HM4 := hide hM4; have HK4 := hide hK4; have HKO := hide hKO; have HAP := hide hap; clear hm3 hu hb3 hM4 hK4 hKO hap))
          all_goals gi_wp2
          all_goals exact ⟨⟨Nat.le_trans HB2.out.size HKO.out.size, fun k o _ hk ho => HKO.out.same k o ((HB2.out.block k (Array.getElem?_eq_some_iff.1 hk).1).trans hk) ho⟩, (Kt.of_below HB2.out).trans HK4.out, ⟨_, by rw [HFL2.out]; exact HM4⟩, HBG2.out⟩
      · rw [decide_eq_false hbg]
        have HNB := hide hbg
        clear hbg
        gi_wp2
        exact ⟨⟨HB1.out.size, fun k o _ hk _ => (HB1.out.block k (Array.getElem?_eq_some_iff.1 hk).1).trans hk⟩, rfl, pre, x, rfl, HNB.out, ⟨v', HM1⟩, HBG.out⟩
    case done =>
      rintro D X hD ⟨⟨v', HM⟩, hbeg⟩ hK
      have e : xs = xs ++ [] := (List.append_nil xs).symm
      have hrows := match_rows (R := R) (wd := wd) (r := r) (B := xs) (C := []) HSV.out.up HSV.out.wid HSV.out.le HSV.out.min HRW.out (low := low) (by rw [HASK.out]; exact HLOW.out) (by rw [List.append_nil]; exact HKS.out.symm) HPRE.out (by rw [List.append_nil]; exact HPOST.out) (fun k q e => by cases e)
      rw [HASK.out] at hrows
      rw [hrows] at HM
      have r0 := HM.out.r.c 0
      simp only [List.getElem?_toArray, List.getElem?_cons_zero] at r0
      obtain ⟨aor, nr, capr, hvr⟩ := own_slice HM.out.rows.choose_spec.1
      subst hvr
      clear hbeg e hrows
      gi_wp2
      refine leaves_marks [D] _ (fun e he => by rw [List.mem_singleton.1 he]; exact hK) (by simp) (fun W' hW' => ?_)
      have hFW : Fr (fun k => k = D) X W' := hW'.mono (fun k _ hk => List.mem_singleton.1 hk)
      exact ⟨.slice aor nr capr, by simp [results, Try.f13, go_sem], .slice aor nr capr, rfl, HM.out.rows.fr hFW (fun k hk t cs hb => by subst hk; unfold Bx at hb; rw [hK] at hb; cases hb), HM.out.below.trans (hFW.below (fun k hk => by subst hk; exact Nat.le_trans h9 hD) HM.out.below.size)⟩
    case stop =>
      rintro D id pre x rest X hD hx ⟨rfl, pre', x', e, hnb, ⟨v', HM⟩, hbeg⟩ hK
      have e' : pre = pre' ∧ x = x' := by simpa using e
      obtain ⟨rfl, rfl⟩ := e'
      have hrows := match_rows (R := R) (wd := wd) (r := r) (B := pre) (C := x :: rest) HSV.out.up HSV.out.wid HSV.out.le HSV.out.min HRW.out (low := low) (by rw [HASK.out]; exact HLOW.out) (by rw [← hx]; exact HKS.out.symm) HPRE.out (by rw [← hx]; exact HPOST.out) (fun k q e => by cases e; rw [HASK.out]; exact hnb)
      rw [HASK.out] at hrows
      rw [hrows] at HM
      have r0 := HM.out.r.c 0
      simp only [List.getElem?_toArray, List.getElem?_cons_zero] at r0
      obtain ⟨aor, nr, capr, hvr⟩ := own_slice HM.out.rows.choose_spec.1
      subst hvr
      clear hbeg e hrows hnb hx
      gi_wp2
      refine leaves_marks [D] _ (fun e he => by rw [List.mem_singleton.1 he]; exact hK) (by simp) (fun W' hW' => ?_)
      have hFW : Fr (fun k => k = D) X W' := hW'.mono (fun k _ hk => List.mem_singleton.1 hk)
      exact ⟨.slice aor nr capr, by simp [results, Try.f13, go_sem], .slice aor nr capr, rfl, HM.out.rows.fr hFW (fun k hk t cs hb => by subst hk; unfold Bx at hb; rw [hK] at hb; cases hb), HM.out.below.trans (hFW.below (fun k hk => by subst hk; exact Nat.le_trans h9 hD) HM.out.below.size)⟩
end Go.Proofs.Ytfjcadkihnecdaa

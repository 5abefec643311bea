/- What RelationMany has behind its copy. What RelationAll has behind some rounds: the set and its own list. Rows aside from one block; rows that are chosen; rows that are overwritten. The walks of slices.Clone at keys, of copied and of Copy. -/
import Derived.Test.YtfjcadkihnecdaaPart08
import Derived.Test.YtfjcadkihnecdaaPart07
import Derived.Test.YtfjcadkihnecdaaPart05
import Derived.Test.YtfjcadkihnecdaaPart03
import Derived.Laws.OwnMore
namespace Go.Proofs.Ytfjcadkihnecdaa
open Go.RowKit Go.Shelf

def sec (x : List Int) : Int := x.getD 1 0
theorem ans_sec {x : List Int} (hx : x.length = 2) {d : Int} (hd : 1 ≤ d) : ansB [0, d] x = decide (sec x = d) := by
  match x, hx with
  | [a, b], _ =>
    simp only [ansB, sec, List.zip_cons_cons, List.zip_nil_left, List.all_cons, List.all_nil]
    have : ¬ d ≤ 0 := by omega
    simp [this]
    by_cases h : d = b
    · simp [h]
    · simp [h]; omega
def cnt (R : List (List Int)) (d : Int) : Nat := (R.filter fun x => decide (sec x < d)).length
theorem cnt_le (R : List (List Int)) (d : Int) : cnt R d ≤ R.length := List.length_filter_le _ _
theorem cnt_succ : ∀ (R : List (List Int)), (∀ x ∈ R, x.length = 2) → ∀ (d : Int), 1 ≤ d → cnt R (d + 1) = cnt R d + (R.filter (ansB [0, d])).length
  | [], _, _, _ => rfl
  | x :: R, h, d, hd => by
    have ih := cnt_succ R (fun y hy => h y (by simp [hy])) d hd
    have hx := ans_sec (h x (by simp)) hd
    unfold cnt at ih ⊢
    rw [List.filter_cons, List.filter_cons, List.filter_cons, hx]
    by_cases h1 : sec x = d
    · have h2 : sec x < d + 1 := by omega
      have h3 : ¬ sec x < d := by omega
      have h4 : d < d + 1 := by omega
      simp [h1, h4, ih]
      omega
    · by_cases h2 : sec x < d
      · have h3 : sec x < d + 1 := by omega
        simp [h1, h2, h3, ih]
        omega
      · have h3 : ¬ sec x < d + 1 := by omega
        simp [h1, h2, h3, ih]
theorem cnt_all (R : List (List Int)) (d : Int) (h : ∀ x ∈ R, sec x < d) : cnt R d = R.length := by
  unfold cnt
  rw [List.filter_eq_self.2 fun x hx => by simp [h x hx]]
theorem cnt_none (R : List (List Int)) (d : Int) (h : ∀ x ∈ R, ¬ sec x < d) : cnt R d = 0 := by
  unfold cnt
  rw [List.filter_eq_nil_iff.2 fun x hx => by simp; have := h x hx; omega]
  rfl

/-- The set and its copy: the copy still has the rows that are so. -/
structure Mt (w X : World) (p q B : Nat) (F : Nat → Prop) (R : List (List Int)) (T : List Int → Prop) : Prop where
  s : St X p 2 F R
  lt : ∀ k, F k → k < B
  c : ∃ F2 R2, St X q 2 F2 R2 ∧ (∀ k, F2 k → B ≤ k) ∧ (∀ x, x ∈ R2 ↔ x ∈ R ∧ T x) ∧ R2.length ≤ R.length
  wB : w.heap.size ≤ B
  below : Below w.heap.size w X
theorem Mt.bel {w X Y : World} {p q B : Nat} {F : Nat → Prop} {R : List (List Int)} {T : List Int → Prop} (h : Mt w X p q B F R T) (hb : Below X.heap.size X Y) : Mt w Y p q B F R T := by
  obtain ⟨F2, R2, a, b, c, d⟩ := h.c
  exact ⟨h.s.below hb, h.lt, ⟨F2, R2, a.below hb, b, c, d⟩, h.wB, h.below.trans (hb.mono h.below.size)⟩
theorem Mt.congr {w X : World} {p q B : Nat} {F : Nat → Prop} {R : List (List Int)} {T T' : List Int → Prop} (h : Mt w X p q B F R T) (ht : ∀ x ∈ R, T x ↔ T' x) : Mt w X p q B F R T' := by
  obtain ⟨F2, R2, a, b, c, d⟩ := h.c
  exact ⟨h.s, h.lt, ⟨F2, R2, a, b, fun x => by rw [c]; exact ⟨fun h => ⟨h.1, (ht x h.1).1 h.2⟩, fun h => ⟨h.1, (ht x h.1).2 h.2⟩⟩, d⟩, h.wB, h.below⟩
theorem St.up {w : World} {p wd : Nat} {F : Nat → Prop} {R : List (List Int)} (h : St w p wd F R) : Up R := by
  obtain ⟨_, _, _, h⟩ := h
  exact h.up
theorem St.wid {w : World} {p wd : Nat} {F : Nat → Prop} {R : List (List Int)} (h : St w p wd F R) : ∀ x ∈ R, x.length = wd := by
  obtain ⟨_, _, _, h⟩ := h
  exact h.wid
theorem Up.nodup {R : List (List Int)} (h : Up R) : R.Nodup := h.imp fun hl e => by subst e; exact Lt.irr _ hl
theorem Mt.remove {w X : World} {p q B : Nat} {F : Nat → Prop} {R : List (List Int)} {T : List Int → Prop} (h : Mt w X p q B F R T) (hl : R.length < 1000000000) {vr : Value} {r : List Int} (hr : Is X vr r) (hin : r ∈ R) (hT : T r) :
    Calls Try.prog 10 #[.pointer (some ⟨q, 0, none⟩), vr] X fun e Y => e = .returned (.bool true) ∧ Mt w Y p q B F R (fun x => T x ∧ x ≠ r) ∧ ∀ b v L, Rw b X v L → Rw b Y v L := by
  obtain ⟨F2, R2, a, b, c, d⟩ := h.c
  have hm : r ∈ R2 := (c r).2 ⟨hin, hT⟩
  refine (rmv_any a vr r hr (by omega)).mono ?_
  rintro e Y ⟨rfl, F3, R3, hS, hf, hF, hR⟩
  rw [if_pos hm] at hR
  obtain ⟨A, C, e1, e2⟩ := hR
  have hnd := a.up.nodup
  rw [e1] at hnd
  refine ⟨by rw [decide_eq_true hm], ⟨h.s.kept hf (fun k hk hk2 => by have := h.lt k hk; have := b k hk2; omega), h.lt, ⟨F3, R3, hS, fun k hk => ?_, fun x => ?_, ?_⟩, h.wB, ?_⟩, fun b' v L hw => ?_⟩
  · rcases hF k hk with hk | hk
    · exact b k hk
    · obtain ⟨k2, hk2⟩ : ∃ k2, F2 k2 := by
        obtain ⟨v, zs, rfl, _⟩ := a
        exact ⟨q, .inl rfl⟩
      have := a.lt hk2
      have := b k2 hk2
      omega
  · rw [e2]
    have hc := c x
    rw [e1] at hc
    have hnr : x ∈ A ++ C → x ≠ r := fun hx e => by
      subst e
      have := (List.nodup_append.1 hnd)
      rcases List.mem_append.1 hx with hx | hx
      · exact this.2.2 x hx x (by simp) rfl
      · exact (List.nodup_cons.1 this.2.1).1 hx
    constructor
    · intro hx
      have := hc.1 (by simp at hx ⊢; rcases hx with hx | hx <;> simp [hx])
      exact ⟨this.1, this.2, hnr hx⟩
    · rintro ⟨h1, h2, h3⟩
      have := hc.2 ⟨h1, h2⟩
      simp at this ⊢
      rcases this with h | h | h
      · exact .inl h
      · exact absurd h h3
      · exact .inr h
  · rw [e2]
    rw [e1] at d
    simp at d ⊢
    omega
  · exact Below.of_fr h.below hf (fun k hk => Nat.le_trans h.wB (b k hk))
  · refine hw.fr hf (fun k hk t cs hb => ?_)
    obtain ⟨t', cs', hb', ht⟩ := a.typ hk
    unfold Bx at hb hb'
    rw [hb] at hb'
    simp at hb'
    have := hb'.2
    rcases ht with rfl | rfl | rfl <;> simp_all
/-- Nothing is left in the copy. -/
theorem Mt.none {w X : World} {p q B : Nat} {F : Nat → Prop} {R : List (List Int)} {T : List Int → Prop} (h : Mt w X p q B F R T) (hT : ∀ x ∈ R, ¬ T x) :
    Calls Try.prog 16 #[.pointer (some ⟨q, 0, none⟩)] X fun e w' => e = .returned (.int .i64 0) ∧ w' = X := by
  obtain ⟨F2, R2, a, b, c, d⟩ := h.c
  have e : R2 = [] := List.eq_nil_iff_forall_not_mem.2 fun x hx => hT x ((c x).1 hx).1 ((c x).1 hx).2
  subst e
  exact len_any a (by simp)
end Go.Proofs.Ytfjcadkihnecdaa
namespace Go.Proofs.Ytfjcadkihnecdaa
open Go.RowKit Go.Shelf

/-- The set and the list. -/
structure Al (w X : World) (p wd : Nat) (v : Value) (F : Nat → Prop) (R M : List (List Int)) : Prop where
  s : St X p wd F R
  m : Mw w.heap.size X v M
  below : Below w.heap.size w X
  ge : ∀ k, F k → w.heap.size ≤ k
theorem Al.bel {w X Y : World} {p wd : Nat} {v : Value} {F : Nat → Prop} {R M : List (List Int)} (h : Al w X p wd v F R M) (hb : Below X.heap.size X Y) : Al w Y p wd v F R M :=
  ⟨h.s.below hb, h.m.below hb, h.below.trans (hb.mono h.below.size), h.ge⟩
theorem St.types {X : World} {p wd : Nat} {F : Nat → Prop} {R : List (List Int)} (h : St X p wd F R) : ∀ k, F k → ∀ t cs, Bx X k t cs → t ≠ 27 ∧ t ≠ 3 ∧ t ≠ 32 := fun k hk t cs hb => by
  obtain ⟨t', cs', hb', ht⟩ := h.typ hk
  unfold Bx at hb hb'
  rw [hb] at hb'
  simp at hb'
  have := hb'.2
  rcases ht with rfl | rfl | rfl <;> simp_all
/-- The set has changed, the list has not. -/
theorem Al.set {w X Y : World} {p wd : Nat} {v : Value} {F F' : Nat → Prop} {R R' M : List (List Int)} (h : Al w X p wd v F R M) (hS : St Y p wd F' R') (hf : Fr F X Y) (hF : ∀ k, F' k → F k ∨ X.heap.size ≤ k) : Al w Y p wd v F' R' M :=
  ⟨hS, h.m.fr hf (fun k hk t cs hb => ⟨(h.s.types k hk t cs hb).1, (h.s.types k hk t cs hb).2.1⟩), Below.of_fr h.below hf h.ge, fun k hk => by
    rcases hF k hk with hk | hk
    · exact h.ge k hk
    · exact Nat.le_trans h.below.size hk⟩
/-- Behind Add. -/
theorem Al.add {w X Y : World} {p wd : Nat} {v : Value} {F : Nat → Prop} {R M : List (List Int)} {r : List Int} (h : Al w X p wd v F R M) (hr : AddR X Y p wd F R r) (hp : M.Perm R) :
    ∃ F' R', Al w Y p wd v F' R' M ∧ (if r.length = wd ∧ r ∉ M then (M ++ [r]).Perm R' else M.Perm R') := by
  obtain ⟨F', R', hS, hf, hF, hR⟩ := hr
  refine ⟨F', R', h.set hS hf hF, ?_⟩
  have hm : r ∉ M ↔ r ∉ R := by rw [hp.mem_iff]
  by_cases hc : r.length = wd ∧ r ∉ M
  · rw [if_pos hc]
    rw [if_pos ⟨hc.1, hm.1 hc.2⟩] at hR
    obtain ⟨R1, R2, e1, e2⟩ := hR
    subst e1 e2
    exact (List.perm_append_singleton r M).trans ((hp.cons r).trans List.perm_middle.symm)
  · rw [if_neg hc]
    rw [if_neg (fun hh => hc ⟨hh.1, hm.2 hh.2⟩)] at hR
    subst hR
    exact hp
/-- Behind Remove. -/
theorem Al.rem {w X Y : World} {p wd : Nat} {v : Value} {F : Nat → Prop} {R M : List (List Int)} {r : List Int} (h : Al w X p wd v F R M) (hr : RemR X Y p wd F R r) (hp : M.Perm R) :
    ∃ F' R', Al w Y p wd v F' R' M ∧ ∀ i, M[i]? = some r → (M.eraseIdx i).Perm R' := by
  obtain ⟨F', R', hS, hf, hF, hR⟩ := hr
  refine ⟨F', R', h.set hS hf hF, fun i hi => ?_⟩
  obtain ⟨hil, hie⟩ := List.getElem?_eq_some_iff.1 hi
  have hin : r ∈ M := by rw [← hie]; exact List.getElem_mem hil
  rw [if_pos (hp.mem_iff.1 hin)] at hR
  obtain ⟨R1, R2, e1, e2⟩ := hR
  subst e1 e2
  have h1 : (r :: M.eraseIdx i).Perm M := by
    rw [List.eraseIdx_eq_take_drop_succ]
    refine List.perm_middle.symm.trans ?_
    have : M.take i ++ r :: M.drop (i + 1) = M := by
      rw [← hie, ← List.drop_eq_getElem_cons hil, List.take_append_drop]
    rw [this]
  exact ((h1.trans hp).trans List.perm_middle).cons_inv
theorem Al.rem_none {w X Y : World} {p wd : Nat} {v : Value} {F : Nat → Prop} {R M : List (List Int)} {r : List Int} (h : Al w X p wd v F R M) (hr : RemR X Y p wd F R r) (hp : M.Perm R) (hn : r ∉ M) :
    ∃ F', Al w Y p wd v F' R M := by
  obtain ⟨F', R', hS, hf, hF, hR⟩ := hr
  rw [if_neg (fun hh => hn (hp.mem_iff.2 hh))] at hR
  subst hR
  exact ⟨F', h.set hS hf hF⟩
/-- A row comes to the list. -/
theorem Al.push {w X : World} {p wd : Nat} {v : Value} {F : Nat → Prop} {R M : List (List Int)} (h : Al w X p wd v F R M) (hl : M.length ≤ 1000000000) {u : Value} {r : List Int} (hu : X.ownsRow w.heap.size 3 1 u r.length (cI r)) :
    ∃ g cap W9, (∀ ty, (Builtin.append_ #[26, 26] ty #[v, .slice (some ⟨X.heap.size, 0, none⟩) 1 1]).run Try.prog (X.alloc (.cells #[u] 27)) = .ok (.slice (some ⟨g, 0, none⟩) (M.length + 1) cap) W9) ∧ Al w W9 p wd (.slice (some ⟨g, 0, none⟩) (M.length + 1) cap) F R (M ++ [r]) ∧ Fr (fun k => v.ownBlock = some k) X W9 := by
  obtain ⟨g, cap, W9, h1, h2, h3⟩ := h.m.push hl h.below.size hu
  obtain ⟨vs, o1, _⟩ := h.m
  refine ⟨g, cap, W9, h1, ⟨h.s.kept h3 (fun k hk e => ?_), h2, Below.of_fr h.below h3 (fun k hk => (o1.lt k hk).1), h.ge⟩, h3⟩
  obtain ⟨cs, hc⟩ := own_at o1 e
  exact (h.s.types k hk 27 cs hc).1 rfl
/-- A row goes out of the list. -/
theorem Al.cut {w X : World} {p wd : Nat} {g n cap : Nat} {F : Nat → Prop} {R M : List (List Int)} (h : Al w X p wd (.slice (some ⟨g, 0, none⟩) n cap) F R M) (hl : M.length ≤ 1000000000) {i : Nat} (hi : i < M.length) :
    ∃ v1 W1 v2 W2, (∀ ty, (Builtin.append_ #[26, 26] ty #[.slice none 0 0, .slice (some ⟨g, 0, none⟩) i cap]).run Try.prog X = .ok v1 W1) ∧
      (∀ ty, (Builtin.append_ #[26, 26] ty #[v1, .slice (some ⟨g, i + 1, none⟩) (M.length - (i + 1)) (cap - (i + 1))]).run Try.prog W1 = .ok v2 W2) ∧ (∃ ao m c, v1 = .slice ao m c) ∧ (∃ ao c, v2 = .slice ao (M.length - 1) c) ∧ Al w W2 p wd v2 F R (M.eraseIdx i) := by
  obtain ⟨v1, W1, v2, W2, h1, h2, h3, h4, h5, h6, h7⟩ := h.m.cut h.below.size hl hi
  exact ⟨v1, W1, v2, W2, h1, h2, h3, h4, ⟨h.s.below h7, h5, h.below.trans (h7.mono h.below.size), h.ge⟩⟩
/-- What rows is asked: the set's rows against the list. -/
theorem up_step {R : List (List Int)} (h : Up R) {wd : Nat} (hw : ∀ x ∈ R, x.length = wd) : ∀ i (h : i + 1 < R.length), Lt R[i] R[i + 1] ∧ R[i].length = R[i + 1].length := fun i hi =>
  ⟨List.pairwise_iff_getElem.1 h i (i + 1) (by omega) hi (by omega), by rw [hw _ (List.getElem_mem _), hw _ (List.getElem_mem _)]⟩
/-- The last place at which a list has a row: what the law's first loop finds. -/
def lastIx (M : List (List Int)) (r : List Int) : Nat → Int
  | 0 => -1
  | k + 1 => if M[k]? = some r then (k : Int) else lastIx M r k
theorem lastIx_neg {M : List (List Int)} {r : List Int} : ∀ k, (lastIx M r k < 0 ↔ r ∉ M.take k)
  | 0 => by simp [lastIx]
  | k + 1 => by
    have ih := lastIx_neg (M := M) (r := r) k
    unfold lastIx
    by_cases h : M[k]? = some r
    · rw [if_pos h]
      obtain ⟨hk, e⟩ := List.getElem?_eq_some_iff.1 h
      rw [List.take_succ_eq_append_getElem hk, e]
      simp
    · rw [if_neg h, ih]
      by_cases hk : k < M.length
      · have hne : ¬ r = M[k] := fun e => h (by rw [e]; exact List.getElem?_eq_getElem hk)
        rw [List.take_succ_eq_append_getElem hk]
        simp only [List.mem_append, List.mem_singleton, hne, or_false]
      · rw [List.take_of_length_le (by omega), List.take_of_length_le (by omega)]
theorem lastIx_at {M : List (List Int)} {r : List Int} : ∀ k, ¬ lastIx M r k < 0 → ∃ i : Nat, lastIx M r k = (i : Int) ∧ i < k ∧ M[i]? = some r
  | 0, h => by simp [lastIx] at h
  | k + 1, h => by
    unfold lastIx at h ⊢
    by_cases hk : M[k]? = some r
    · exact ⟨k, by rw [if_pos hk], by omega, hk⟩
    · rw [if_neg hk] at h ⊢
      obtain ⟨i, a, b, c⟩ := lastIx_at k h
      exact ⟨i, a, by omega, c⟩
end Go.Proofs.Ytfjcadkihnecdaa
namespace Go.Proofs.Ytfjcadkihnecdaa
open Go.RowKit Go.Shelf

/-- The list's rows, none of which lies in a block of H. -/
def Mh (H : Nat → Prop) (b : Nat) (W : World) (v : Value) (M : List (List Int)) : Prop :=
  ∃ vs : List Value, W.ownsRow b 27 1 v M.length vs ∧ vs.length = M.length ∧ ∀ i (h : i < M.length), ∃ u, vs[i]? = some u ∧ W.ownsRow b 3 1 u M[i].length (cI M[i]) ∧ ∀ k, u.ownBlock = some k → ¬ H k
theorem Mh.mw {H : Nat → Prop} {b : Nat} {W : World} {v : Value} {M : List (List Int)} (h : Mh H b W v M) : Mw b W v M := by
  obtain ⟨vs, h1, h2, h3⟩ := h
  exact ⟨vs, h1, h2, fun i hi => by obtain ⟨u, hu, ho, _⟩ := h3 i hi; exact ⟨u, hu, ho⟩⟩
theorem Mw.mh {H : Nat → Prop} {b : Nat} {W : World} {v : Value} {M : List (List Int)} (h : Mw b W v M) (hH : ∀ k, H k → W.heap.size ≤ k) : Mh H b W v M := by
  obtain ⟨vs, h1, h2, h3⟩ := h
  exact ⟨vs, h1, h2, fun i hi => by
    obtain ⟨u, hu, ho⟩ := h3 i hi
    exact ⟨u, hu, ho, fun k hk hHk => by have := (ho.lt k hk).2; have := hH k hHk; omega⟩⟩
theorem Mh.fr {H : Nat → Prop} {b : Nat} {A B : World} {v : Value} {L : List (List Int)} {F : Nat → Prop} (h : Mh H b A v L) (hf : Fr F A B) (hF : ∀ k, F k → (∀ t cs, Bx A k t cs → t ≠ 27) ∧ (H k ∨ ∀ t cs, Bx A k t cs → t ≠ 3)) : Mh H b B v L := by
  obtain ⟨vs, h1, h2, h3⟩ := h
  refine ⟨vs, own_kept h1 hf (fun k hk hFk => ?_), h2, fun i hi => ?_⟩
  · obtain ⟨cs, hc⟩ := own_at h1 hk
    exact (hF k hFk).1 27 cs hc rfl
  · obtain ⟨u, hu, ho, hn⟩ := h3 i hi
    refine ⟨u, hu, own_kept ho hf (fun k hk hFk => ?_), hn⟩
    rcases (hF k hFk).2 with hHk | ht
    · exact hn k hk hHk
    · obtain ⟨cs, hc⟩ := own_at ho hk
      exact ht 3 cs hc rfl
theorem Mh.below {H : Nat → Prop} {b : Nat} {A B : World} {v : Value} {L : List (List Int)} (h : Mh H b A v L) (hb : Below A.heap.size A B) : Mh H b B v L := h.fr (F := fun _ => False) (Fr.of_below hb) (fun _ h => h.elim)
theorem Mh.push {H : Nat → Prop} {b : Nat} {W : World} {v : Value} {M : List (List Int)} (h : Mh H b W v M) (hl : M.length ≤ 1000000000) (hb : b ≤ W.heap.size) {u : Value} {r : List Int} (hu : W.ownsRow b 3 1 u r.length (cI r)) (hH : ∀ k, u.ownBlock = some k → ¬ H k) :
    ∃ g cap W9, (∀ ty, (Builtin.append_ #[26, 26] ty #[v, .slice (some ⟨W.heap.size, 0, none⟩) 1 1]).run Try.prog (W.alloc (.cells #[u] 27)) = .ok (.slice (some ⟨g, 0, none⟩) (M.length + 1) cap) W9) ∧ Mh H b W9 (.slice (some ⟨g, 0, none⟩) (M.length + 1) cap) (M ++ [r]) ∧ Fr (fun k => v.ownBlock = some k) W W9 := by
  obtain ⟨i, hi, hz, hs, hby⟩ := info_parts Try.inf27
  have h9 := h.below (below_box W (.cells #[u] 27))
  have hnew := Bx.new W #[u] 27
  have hu9 : (W.alloc (.cells #[u] 27)).ownsRow b 3 1 u r.length (cI r) := own_kept (F := fun _ => False) hu (Fr.of_below (below_box W _)) (fun _ _ => id)
  have hfA : Fr (fun k => v.ownBlock = some k) W (W.alloc (.cells #[u] 27)) := Fr.of_below (below_box W _)
  have hbA : b ≤ (W.alloc (.cells #[u] 27)).heap.size := by simp; omega
  generalize W.alloc (.cells #[u] 27) = WA at *
  obtain ⟨vs, hr1, hr2, hr3⟩ := h9
  obtain ⟨v2, W9, hrun, hO, hg, _, hat⟩ := run_append_own_at (P := Try.prog) WA b 26 26 27 i _ 1 24 Try.underlying26 hi hz hs hby rfl (by decide) v M.length vs hr1 ⟨W.heap.size, 0, none⟩ 1 1 [u] rfl (fun j x hj => by
    rw [Addr.add_lit, Nat.zero_add, hnew.c]
    simpa using hj) (by intro x hx; simp at hx; subst hx; exact own_one hu9) (by simp only [maxLen]; omega) (by omega) hbA
  obtain ⟨g, cap, rfl⟩ : ∃ g cap, v2 = .slice (some ⟨g, 0, none⟩) (M.length + 1) cap := by
    rcases own_shape hO with ⟨_, h0⟩ | ⟨g, cap, e, _⟩
    · omega
    · exact ⟨g, cap, e⟩
  have hfr : Fr (fun k => v.ownBlock = some k) WA W9 := Fr.of_grown hg (fun k e => e)
  have hkeep3 : ∀ {n' : Nat} {x : Value} {ys : List Value}, WA.ownsRow b 3 1 x n' ys → W9.ownsRow b 3 1 x n' ys := fun ho => own_kept ho hfr (fun k hk e => own_ne ho hr1 (by decide) hk e)
  refine ⟨g, cap, W9, fun ty => hrun, ⟨vs ++ [u], by rw [List.length_append]; exact hO, by simp [hr2], fun j hj => ?_⟩, hfA.trans hfr (fun x _ hx => hx)⟩
  by_cases hjl : j < M.length
  · obtain ⟨x, hx, ho, hn⟩ := hr3 j hjl
    refine ⟨x, by rw [List.getElem?_append_left (by omega)]; exact hx, ?_, hn⟩
    rw [List.getElem_append_left hjl]
    exact hkeep3 ho
  · have hjl2 : j = M.length := by simp at hj; omega
    subst hjl2
    refine ⟨u, by rw [← hr2]; simp, ?_, hH⟩
    simp only [List.getElem_append_right (Nat.le_refl _), Nat.sub_self, List.getElem_cons_zero]
    exact hkeep3 hu9
/-- A row comes to the list, none in a block of H. -/
theorem Al.pushH {w X : World} {p wd : Nat} {v : Value} {F : Nat → Prop} {R M : List (List Int)} (h : Al w X p wd v F R M) {H : Nat → Prop} (hm : Mh H w.heap.size X v M) (hl : M.length ≤ 1000000000) {u : Value} {r : List Int} (hu : X.ownsRow w.heap.size 3 1 u r.length (cI r)) (hH : ∀ k, u.ownBlock = some k → ¬ H k) :
    ∃ g cap W9, (∀ ty, (Builtin.append_ #[26, 26] ty #[v, .slice (some ⟨X.heap.size, 0, none⟩) 1 1]).run Try.prog (X.alloc (.cells #[u] 27)) = .ok (.slice (some ⟨g, 0, none⟩) (M.length + 1) cap) W9) ∧ Al w W9 p wd (.slice (some ⟨g, 0, none⟩) (M.length + 1) cap) F R (M ++ [r]) ∧ Mh H w.heap.size W9 (.slice (some ⟨g, 0, none⟩) (M.length + 1) cap) (M ++ [r]) ∧ Fr (fun k => v.ownBlock = some k) X W9 := by
  obtain ⟨g, cap, W9, h1, h2, h3⟩ := hm.push hl h.below.size hu hH
  obtain ⟨vs, o1, _⟩ := h.m
  refine ⟨g, cap, W9, h1, ⟨h.s.kept h3 (fun k hk e => ?_), h2.mw, Below.of_fr h.below h3 (fun k hk => (o1.lt k hk).1), h.ge⟩, h2, h3⟩
  obtain ⟨cs, hc⟩ := own_at o1 e
  exact (h.s.types k hk 27 cs hc).1 rfl
/-- A row of one's own has been written, in which none of the list lies. -/
theorem Al.wrote {w X Y : World} {p wd : Nat} {v : Value} {F : Nat → Prop} {R M : List (List Int)} (h : Al w X p wd v F R M) {b n : Nat} {u : Value} {xs : List Value} (hu : X.ownsRow b 3 1 u n xs) (hb : w.heap.size ≤ b) (hm : Mh (fun k => u.ownBlock = some k) w.heap.size X v M) (hf : Fr (fun k => u.ownBlock = some k) X Y) : Al w Y p wd v F R M :=
  ⟨h.s.kept hf (fun k hk e => by obtain ⟨cs, hc⟩ := own_at hu e; exact (h.s.types k hk 3 cs hc).2.1 rfl),
   (hm.fr hf (fun k hk => ⟨fun t cs hb => by
      obtain ⟨cs', hc⟩ := own_at hu hk
      unfold Bx at hb hc
      rw [hb] at hc
      simp at hc
      rw [hc.2]
      decide, .inl hk⟩)).mw, Below.of_fr h.below hf (fun k hk => Nat.le_trans hb (hu.lt k hk).1), h.ge⟩

/-- A row of numbers of one's own, of whatever numbers, behind some writes. -/
def Own (b : Nat) (W : World) (v : Value) (n : Nat) : Prop := ∃ rr : List Int, rr.length = n ∧ W.ownsRow b 3 1 v n (cI rr)
theorem Own.put {b g n cap : Nat} {W : World} (h : Own b W (.slice (some ⟨g, 0, none⟩) n cap) n) (k : Nat) (hk : k < n) :
    ∃ x : Int, W.cell? ⟨g, k, none⟩ = some (.int .i64 x) ∧ W.frozen? ⟨g, k, none⟩ = false ∧ ∀ y : Int, Own b (W.setCell ⟨g, k, none⟩ (.int .i64 y)) (.slice (some ⟨g, 0, none⟩) n cap) n ∧ Fr (fun j => (Value.slice (some ⟨g, 0, none⟩) n cap).ownBlock = some j) W (W.setCell ⟨g, k, none⟩ (.int .i64 y)) := by
  obtain ⟨rr, hl, ho⟩ := h
  refine ⟨rr[k]'(by omega), ?_, ho.frozenAt k, fun y => ?_⟩
  · rw [ho.cellAt k (by omega)]
    simp [cI, hl, hk]
  · have hst := ho.stored k (.int .i64 y)
    refine ⟨⟨rr.set k y, by simp [hl], ?_⟩, Fr.of_grown hst.2 (fun j e => e)⟩
    have e : (cI rr).set k (.int .i64 y) = cI (rr.set k y) := by
      simp [cI, List.map_set]
    rw [← e]
    exact hst.1

/-- Rows that are chosen out of W0's: a slice of one's own, the rows W0's. -/
def Wt (W0 W : World) (v : Value) (L : List (List Int)) : Prop :=
  Below W0.heap.size W0 W ∧ ∃ us : List Value, W.ownsRow W0.heap.size 27 1 v L.length us ∧ us.length = L.length ∧ ∀ i (h : i < L.length), ∃ u, us[i]? = some u ∧ Is W0 u L[i]
theorem Wt.nil (W : World) : Wt W W (.slice none 0 0) [] := ⟨Below.refl _ _, [], World.ownsRow_nil _ _ _ _, rfl, fun i h => by simp at h⟩
theorem Wt.rs {W0 W : World} {v : Value} {L : List (List Int)} (h : Wt W0 W v L) : Rs W v L := by
  obtain ⟨hb, us, h1, h2, h3⟩ := h
  rcases own_shape h1 with ⟨rfl, h0⟩ | ⟨g, cap, e, hc, hm, _⟩
  · have : L = [] := List.eq_nil_of_length_eq_zero h0
    subst this
    exact ⟨none, 0, rfl, Nat.le_refl _, by simp [maxLen], fun h => by simp at h⟩
  · subst e
    refine ⟨_, cap, rfl, hc, hm, fun _ => ⟨g, 0, rfl, fun i hi => ?_⟩⟩
    obtain ⟨u, hu, ho⟩ := h3 i hi
    exact ⟨u, by rw [Nat.zero_add, h1.cellAt i (by omega)]; exact hu, ho.below hb⟩
theorem Wt.below {W0 A B : World} {v : Value} {L : List (List Int)} (h : Wt W0 A v L) (hb : Below A.heap.size A B) : Wt W0 B v L := by
  obtain ⟨h0, us, h1, h2, h3⟩ := h
  exact ⟨h0.trans (hb.mono h0.size), us, own_kept (F := fun _ => False) h1 (Fr.of_below hb) (fun _ _ => id), h2, h3⟩
theorem Is.one {w : World} {u : Value} {r : List Int} (h : Is w u r) : u.oneCell' = true := by
  obtain ⟨ao, cap, rfl, _⟩ := h
  rfl
theorem Wt.push {W0 W : World} {v : Value} {L : List (List Int)} (h : Wt W0 W v L) (hl : L.length ≤ 1000000000) {u : Value} {r : List Int} (hu : Is W0 u r) :
    ∃ g cap W9, (∀ ty, (Builtin.append_ #[26, 26] ty #[v, .slice (some ⟨W.heap.size, 0, none⟩) 1 1]).run Try.prog (W.alloc (.cells #[u] 27)) = .ok (.slice (some ⟨g, 0, none⟩) (L.length + 1) cap) W9) ∧ Wt W0 W9 (.slice (some ⟨g, 0, none⟩) (L.length + 1) cap) (L ++ [r]) := by
  obtain ⟨i, hi, hz, hs, hby⟩ := info_parts Try.inf27
  obtain ⟨hB, vs, hr0, hr2, hr3⟩ := h
  have hnew := Bx.new W #[u] 27
  have hr1 : (W.alloc (.cells #[u] 27)).ownsRow W0.heap.size 27 1 v L.length vs := own_kept (F := fun _ => False) hr0 (Fr.of_below (below_box W _)) (fun _ _ => id)
  have hBA : Below W0.heap.size W0 (W.alloc (.cells #[u] 27)) := hB.trans ((below_box W _).mono hB.size)
  generalize W.alloc (.cells #[u] 27) = WA at *
  obtain ⟨v2, W9, hrun, hO, hg, _, hat⟩ := run_append_own_at (P := Try.prog) WA W0.heap.size 26 26 27 i _ 1 24 Try.underlying26 hi hz hs hby rfl (by decide) v L.length vs hr1 ⟨W.heap.size, 0, none⟩ 1 1 [u] rfl (fun j x hj => by
    rw [Addr.add_lit, Nat.zero_add, hnew.c]
    simpa using hj) (by intro x hx; simp at hx; subst hx; exact hu.one) (by simp only [maxLen]; omega) (by omega) hBA.size
  obtain ⟨g, cap, rfl⟩ : ∃ g cap, v2 = .slice (some ⟨g, 0, none⟩) (L.length + 1) cap := by
    rcases own_shape hO with ⟨_, h0⟩ | ⟨g, cap, e, _⟩
    · omega
    · exact ⟨g, cap, e⟩
  refine ⟨g, cap, W9, fun ty => hrun, hBA.grown hg hBA.size (fun k hk => (hr1.lt k hk).1), vs ++ [u], by rw [List.length_append]; exact hO, by simp [hr2], fun j hj => ?_⟩
  by_cases hjl : j < L.length
  · obtain ⟨x, hx, ho⟩ := hr3 j hjl
    refine ⟨x, by rw [List.getElem?_append_left (by omega)]; exact hx, ?_⟩
    rw [List.getElem_append_left hjl]
    exact ho
  · have hjl2 : j = L.length := by simp at hj; omega
    subst hjl2
    refine ⟨u, by rw [← hr2]; simp, ?_⟩
    simp only [List.getElem_append_right (Nat.le_refl _), Nat.sub_self, List.getElem_cons_zero]
    exact hu

/-- Rows of one's own that are overwritten: what lies in them is not told. -/
def Wo (b : Nat) (W : World) (v : Value) (n : Nat) (vs : List Value) : Prop :=
  W.ownsRow b 32 1 v n vs ∧ vs.length = n ∧ ∀ i, i < n → ∃ ro m cap, vs[i]? = some (.slice ro m cap) ∧ m ≤ 1000000000 ∧ (0 < m → ∃ g cs, ro = some ⟨g, 0, none⟩ ∧ b ≤ g ∧ Bx W g 3 cs ∧ m ≤ cs.size)
theorem Rw.wo {b : Nat} {W : World} {v : Value} {L : List (List Int)} (h : Rw b W v L) (hl : ∀ x ∈ L, x.length ≤ 1000000000) : ∃ vs, Wo b W v L.length vs := by
  obtain ⟨vs, h1, h2, h3⟩ := h
  refine ⟨vs, h1, h2, fun i hi => ?_⟩
  obtain ⟨u, hu, ho⟩ := h3 i hi
  have hL := hl _ (List.getElem_mem hi)
  rcases ho.2 with ⟨rfl, h0⟩ | ⟨g, cap, cur, rfl, hb, hg, hn, hc, hs, ht⟩
  · exact ⟨none, 0, 0, hu, by omega, fun h => by omega⟩
  · exact ⟨_, _, cap, hu, hL, fun _ => ⟨g, cur, rfl, hb, hg, by omega⟩⟩
theorem Wo.below {b : Nat} {A B : World} {v : Value} {n : Nat} {vs : List Value} (h : Wo b A v n vs) (hb : Below A.heap.size A B) : Wo b B v n vs := by
  obtain ⟨h1, h2, h3⟩ := h
  refine ⟨own_kept (F := fun _ => False) h1 (Fr.of_below hb) (fun _ _ => id), h2, fun i hi => ?_⟩
  obtain ⟨ro, m, cap, hu, hm, hh⟩ := h3 i hi
  exact ⟨ro, m, cap, hu, hm, fun hp => by
    obtain ⟨g', cs', e, hb', hB', hs'⟩ := hh hp
    exact ⟨g', cs', e, hb', hB'.below hb, hs'⟩⟩
theorem Wo.put {b : Nat} {W : World} {v : Value} {n : Nat} {vs : List Value} (h : Wo b W v n vs) {g k : Nat} {cs : Array Value} (hg : Bx W g 3 cs) (u : Value) : Wo b (W.setCell ⟨g, k, none⟩ u) v n vs := by
  obtain ⟨h1, h2, h3⟩ := h
  refine ⟨own_kept h1 (Fr.one W g k u) (fun j hj e => by subst e; exact own_type_ne h1 hg (by decide) hj), h2, fun i hi => ?_⟩
  obtain ⟨ro, m, cap, hu, hm, hh⟩ := h3 i hi
  refine ⟨ro, m, cap, hu, hm, fun hp => ?_⟩
  obtain ⟨g', cs', e, hb', hB', hs'⟩ := hh hp
  by_cases he : g' = g
  · subst he
    exact ⟨g', _, e, hb', heap_set hB' u, by simpa using hs'⟩
  · exact ⟨g', cs', e, hb', (Below.heap_setCell _ _ _ _ he).trans hB', hs'⟩
theorem Mw.cutA {b : Nat} {W : World} {g n cap : Nat} {M : List (List Int)} (h : Mw b W (.slice (some ⟨g, 0, none⟩) n cap) M) (hb : b ≤ W.heap.size) (hl : M.length ≤ 1000000000) {i : Nat} (hi : i < M.length) (A : Addr) (hA : i + 1 < M.length → A = ⟨g, i + 1, none⟩) :
    ∃ v1 W1 v2 W2, (∀ ty, (Builtin.append_ #[26, 26] ty #[.slice none 0 0, .slice (some ⟨g, 0, none⟩) i cap]).run Try.prog W = .ok v1 W1) ∧
      (∀ ty, (Builtin.append_ #[26, 26] ty #[v1, .slice (some A) (M.length - (i + 1)) (cap - (i + 1))]).run Try.prog W1 = .ok v2 W2) ∧ (∃ ao m c, v1 = .slice ao m c) ∧ (∃ ao c, v2 = .slice ao (M.length - 1) c) ∧ Mw b W2 v2 (M.eraseIdx i) ∧ Below W.heap.size W W1 ∧ Below W.heap.size W W2 := by
  obtain ⟨I, hI, hz, hs, hby⟩ := info_parts Try.inf27
  obtain ⟨vs, hr1, hr2, hr3⟩ := h
  have hn : n = M.length := by
    rcases own_shape hr1 with ⟨_, h0⟩ | ⟨_, _, e, _⟩
    · omega
    · simp only [Value.slice.injEq] at e
      exact e.2.1
  subst hn
  have hone : ∀ u ∈ vs, u.oneCell' = true := fun u hu => by
    obtain ⟨j, hj, rfl⟩ := List.getElem_of_mem hu
    obtain ⟨x, hx, ho⟩ := hr3 j (by omega)
    rw [List.getElem?_eq_getElem hj] at hx
    cases hx
    exact own_one ho
  obtain ⟨v1, W1, hrun1, hO1, hg1, _, _⟩ := run_append_own_at (P := Try.prog) W W.heap.size 26 26 27 I _ 1 24 Try.underlying26 hI hz hs hby rfl (by decide) (.slice none 0 0) 0 [] (World.ownsRow_nil _ _ _ _) ⟨g, 0, none⟩ i cap (vs.take i) (by simp; omega) (fun j x hj => by
    have hj2 := (List.getElem?_eq_some_iff.1 hj).1
    simp at hj2
    rw [Addr.add_lit, Nat.zero_add, hr1.cellAt j (by omega), ← hj, List.getElem?_take_of_lt (by omega)]) (fun u hu => hone u (List.mem_of_mem_take hu)) (by simp only [maxLen]; omega) (by omega) (Nat.le_refl _)
  have hB1 : Below W.heap.size W W1 := ⟨hg1.os, hg1.tape, hg1.output, hg1.size, fun k hk => hg1.block k hk (by simp [Value.ownBlock])⟩
  rw [Nat.zero_add, List.nil_append] at hO1
  have hr1' := own_kept (F := fun _ => False) hr1 (Fr.of_below hB1) (fun _ _ => id)
  have key2 := run_append_own_at (P := Try.prog) W1 W.heap.size 26 26 27 I _ 1 24 Try.underlying26 hI hz hs hby rfl (by decide) v1 i (vs.take i) hO1 A (M.length - (i + 1)) (cap - (i + 1)) (vs.drop (i + 1)) (by simp; omega) (fun j x hj => by
    have hj2 := (List.getElem?_eq_some_iff.1 hj).1
    simp at hj2
    rw [hA (by omega), Addr.add_lit, hr1'.cellAt (i + 1 + j) (by omega), ← hj, List.getElem?_drop]) (fun u hu => hone u (List.mem_of_mem_drop hu)) (by simp only [maxLen]; omega) (by omega) hB1.size
  obtain ⟨v2, W2, hrun2, hO2, hg2, _, _⟩ := key2
  have hB2 : Below W.heap.size W W2 := hB1.grown hg2 hB1.size (fun k hk => (hO1.lt k hk).1)
  have hlen : (M.eraseIdx i).length = M.length - 1 := by rw [List.length_eraseIdx]; simp [hi]
  have hO2' : W2.ownsRow b 27 1 v2 (M.eraseIdx i).length (vs.eraseIdx i) := by
    rw [hlen, List.eraseIdx_eq_take_drop_succ, show M.length - 1 = i + (M.length - (i + 1)) by omega]
    exact own_base hO2 (fun k hk => Nat.le_trans hb (hO2.lt k hk).1)
  have hkeep3 : ∀ {n' : Nat} {x : Value} {ys : List Value}, W.ownsRow b 3 1 x n' ys → W2.ownsRow b 3 1 x n' ys := fun ho => own_kept (F := fun _ => False) ho (Fr.of_below hB2) (fun _ _ => id)
  refine ⟨v1, W1, v2, W2, fun ty => hrun1, fun ty => hrun2, own_slice hO1, ?_, ⟨vs.eraseIdx i, hO2', by rw [List.length_eraseIdx, List.length_eraseIdx, hr2], fun j hj => ?_⟩, hB1, hB2⟩
  · rcases own_shape hO2' with ⟨e, h0⟩ | ⟨g', c', e, _⟩
    · rw [hlen] at h0
      exact ⟨none, 0, by rw [e, h0]⟩
    · exact ⟨_, c', by rw [e, hlen]⟩
  · rw [hlen] at hj
    by_cases hji : j < i
    · obtain ⟨u, hu, ho⟩ := hr3 j (by omega)
      refine ⟨u, by rw [List.getElem?_eraseIdx_of_lt hji]; exact hu, ?_⟩
      rw [List.getElem_eraseIdx_of_lt (by omega) hji]
      exact hkeep3 ho
    · obtain ⟨u, hu, ho⟩ := hr3 (j + 1) (by omega)
      refine ⟨u, by rw [List.getElem?_eraseIdx_of_ge (by omega)]; exact hu, ?_⟩
      rw [List.getElem_eraseIdx_of_ge (by omega) (by omega)]
      exact hkeep3 ho
theorem Al.cutA {w X : World} {p wd : Nat} {g n cap : Nat} {F : Nat → Prop} {R M : List (List Int)} (h : Al w X p wd (.slice (some ⟨g, 0, none⟩) n cap) F R M) (hl : M.length ≤ 1000000000) {i : Nat} (hi : i < M.length) (A : Addr) (hA : i + 1 < M.length → A = ⟨g, i + 1, none⟩) :
    ∃ v1 W1 v2 W2, (∀ ty, (Builtin.append_ #[26, 26] ty #[.slice none 0 0, .slice (some ⟨g, 0, none⟩) i cap]).run Try.prog X = .ok v1 W1) ∧
      (∀ ty, (Builtin.append_ #[26, 26] ty #[v1, .slice (some A) (M.length - (i + 1)) (cap - (i + 1))]).run Try.prog W1 = .ok v2 W2) ∧ (∃ ao m c, v1 = .slice ao m c) ∧ (∃ ao c, v2 = .slice ao (M.length - 1) c) ∧ Al w W2 p wd v2 F R (M.eraseIdx i) := by
  obtain ⟨v1, W1, v2, W2, h1, h2, h3, h4, h5, h6, h7⟩ := h.m.cutA h.below.size hl hi A hA
  exact ⟨v1, W1, v2, W2, h1, h2, h3, h4, ⟨h.s.below h7, h5, h.below.trans (h7.mono h.below.size), h.ge⟩⟩
theorem ans_step : ∀ (j : Nat) (r x : List Int), j < r.length → j < x.length → ansB (r.take (j + 1)) x = (ansB (r.take j) x && (decide (atI r j ≤ 0) || decide (atI r j = atI x j)))
  | 0, a :: r, b :: x, _, _ => by simp [ansB, atI]
  | j + 1, a :: r, b :: x, h1, h2 => by
    have ih := ans_step j r x (by simpa using h1) (by simpa using h2)
    simp only [ansB, atI] at ih ⊢
    simp only [List.take_succ_cons, List.zip_cons_cons, List.all_cons, List.getD_cons_succ]
    rw [ih, Bool.and_assoc]
    rfl
  | _, [], _, h, _ => by simp at h
  | _, _ :: _, [], _, h => by simp at h
end Go.Proofs.Ytfjcadkihnecdaa
namespace Go.Proofs.Ytfjcadkihnecdaa
open Go.RowKit

theorem Ks.cells {W : World} {a : Addr} {n cap : Nat} {ks : List Ky} (h : Ks W (.slice (some a) n cap) ks) : n = ks.length ∧ ∀ j u, (cellsK ks)[j]? = some u → W.cell? (a.add j) = some u := by
  obtain ⟨ao, cap', e, h1, h2, h4⟩ := h
  simp only [Value.slice.injEq] at e
  obtain ⟨rfl, rfl, rfl⟩ := e
  refine ⟨rfl, fun j u hj => ?_⟩
  have hjl : j < (cellsK ks).length := (List.getElem?_eq_some_iff.1 hj).1
  rw [cellsK_len] at hjl
  obtain ⟨g, off, e, hc⟩ := h4 (by omega)
  cases e
  have hq : j / 4 < ks.length := by omega
  obtain ⟨k0, k1, k2, k3⟩ := hc (j / 4) hq
  obtain ⟨c0, c1, c2, c3⟩ := cellsK_get ks (j / 4) hq
  rw [Addr.add_lit]
  have hm : j % 4 = 0 ∨ j % 4 = 1 ∨ j % 4 = 2 ∨ j % 4 = 3 := by omega
  rcases hm with hm | hm | hm | hm
  · rw [show j = j / 4 * 4 by omega] at hj ⊢
    rw [c0] at hj; rw [k0]; exact hj
  · rw [show j = j / 4 * 4 + 1 by omega] at hj ⊢
    rw [c1] at hj; rw [← Nat.add_assoc, k1]; exact hj
  · rw [show j = j / 4 * 4 + 2 by omega] at hj ⊢
    rw [c2] at hj; rw [← Nat.add_assoc, k2]; exact hj
  · rw [show j = j / 4 * 4 + 3 by omega] at hj ⊢
    rw [c3] at hj; rw [← Nat.add_assoc, k3]; exact hj

set_option maxHeartbeats 800000 in
theorem cloneK (a : Addr) (n cap : Nat) (ks : List Ky) (W : World) (h : Ks W (.slice (some a) n cap) ks) (hpos : 0 < ks.length) (hl : ks.length ≤ 1000000000) :
    Calls Try.prog 42 #[.slice (some a) n cap] W fun e W' => ∃ g cap', e = .returned (.slice (some ⟨g, 0, none⟩) ks.length cap') ∧ W.heap.size ≤ g ∧ W'.ownsRow W.heap.size 47 4 (.slice (some ⟨g, 0, none⟩) ks.length cap') ks.length (cellsK ks) ∧ Below W.heap.size W W' := by
  obtain ⟨rfl, _⟩ := h.cells
  obtain ⟨i, hi, hz, hs, hby⟩ := info_parts inf47'
  have hb := below_box W (.cells #[] 47)
  obtain ⟨_, hc⟩ := (h.below hb).cells
  have he := fun w => Lib.run_eql_slice_nil (P := Try.prog) w 65 47 (some a) ks.length cap 0 0 Try.underlying65
  obtain ⟨d, W', hr, hO, hg, _, hat⟩ := run_append_own_at (P := Try.prog) (W.alloc (.cells #[] 47)) W.heap.size 65 65 47 i _ 4 32 Try.underlying65 hi hz hs hby rfl (by decide) (.slice (some ⟨W.heap.size, 0, none⟩) 0 0) 0 [] (World.ownsRow_made W #[] 0 (Nat.le_refl _) (by simp [maxLen]) rfl) a ks.length cap (cellsK ks) (cellsK_len ks) hc (cellsK_one ks) (by simp only [maxLen]; omega) (by omega) (by simp)
  have hO' : W'.ownsRow W.heap.size 47 4 d ks.length (cellsK ks) := by simpa using hO
  have hB' : Below W.heap.size W W' := ((Below.refl _ _).alloc (Nat.le_refl _) _).grown hg (by simp) (fun k hk => by simp [Value.ownBlock] at hk; omega)
  obtain ⟨g, cap', rfl⟩ : ∃ g cap', d = .slice (some ⟨g, 0, none⟩) ks.length cap' := by
    rcases own_shape hO' with ⟨_, h0⟩ | ⟨g, cap', e, _⟩
    · omega
    · exact ⟨g, cap', e⟩
  have HE : Hid (W.heap.size ≤ g ∧ W'.ownsRow W.heap.size 47 4 (.slice (some ⟨g, 0, none⟩) ks.length cap') ks.length (cellsK ks) ∧ Below W.heap.size W W') := ⟨(hO'.lt g rfl).1, hO', hB'⟩
  have hap : ∀ ty, (Builtin.append_ #[65, 65] ty #[.slice (some ⟨W.heap.size, 0, none⟩) 0 0, .slice (some a) ks.length cap]).run Try.prog (W.alloc (.cells #[] 47)) = .ok (.slice (some ⟨g, 0, none⟩) ks.length cap') W' := fun ty => hr
  clear hO hg hat hr hc hO' hB' h hi hz hs hby hb
  go_enter Try.func42, Try.ntmps42
  go_wp2_with (at_builtin; refine Lib.wpList_append_run _ rfl _ _ _ _ rfl _ _ rfl rfl _ _ (hap _) ?_)
  go_ret
  exact ⟨g, cap', rfl, HE.out⟩

theorem Try.inf65' : (Try.prog.info? 65).map (fun i => (i.zero, i.size, i.bytes)) = some (some (.slice none 0 0), 1, 24) := by kernel_rfl
theorem madeN (n : Nat) : (madeCells (Value.slice none 0 0).cells (n * 1)).toList = List.replicate n (.slice none 0 0) := by
  apply List.ext_getElem
  · simp [madeCells]
  · intro i h1 h2
    simp [madeCells, Value.cells, Nat.mod_one]

/-- The pages that have been copied so far. -/
structure Cp (w W : World) (g n i : Nat) (zs ys : List Pg) : Prop where
  row : W.ownsRow w.heap.size 65 1 (.slice (some ⟨g, 0, none⟩) n n) n (dvs ys ++ List.replicate (n - i) (.slice none 0 0))
  len : ys.length = i
  ks : ys.map Pg.ks = (zs.take i).map Pg.ks
  data : ∀ y ∈ ys, W.ownsRow w.heap.size 47 4 y.dv y.ks.length (cellsK y.ks)
  apart : ys.Pairwise Apart
  below : Below w.heap.size w W
  ge : w.heap.size ≤ g

/-- What copied gives. -/
def CpR (w : World) (zs : List Pg) (e : Ending) (W' : World) : Prop := ∃ v' ys, e = .returned v' ∧ (∃ ao N cap, v' = .slice ao N cap) ∧ Pgs W' v' ys ∧ ys.map Pg.ks = zs.map Pg.ks ∧ (∀ k, foot v' ys k → w.heap.size ≤ k) ∧ Below w.heap.size w W'

set_option maxHeartbeats 1600000 in
theorem copied_any (v : Value) (zs : List Pg) (w : World) (hv : Ps w v zs) (hne : ∀ z ∈ zs, z.ks ≠ []) (hsz : ∀ z ∈ zs, z.ks.length ≤ 1000000000) (hl : zs.length ≤ 1000000000) :
    Calls Try.prog 29 #[v] w fun e W' => CpR w zs e W' := by
  obtain ⟨i, hi, hz, hs, hby⟩ := info_parts Try.inf65'
  obtain ⟨W2, hmk, hown, hgr⟩ := run_make_full (P := Try.prog) w w.heap.size 43 65 i _ 1 Try.underlying43 hi hz hs .i64 .i64 zs.length (by rw [hby]; omega) (by simp only [maxLen]; omega) (Nat.le_refl _)
  rw [madeN] at hown
  have hW2 : Below w.heap.size w W2 := ⟨hgr.os, hgr.tape, hgr.output, hgr.size, fun k hk => hgr.block k hk (by simp)⟩
  have HC0 : Hid (Cp w W2 w.heap.size zs.length 0 zs []) := ⟨by simpa [dvs] using hown, rfl, rfl, by simp, List.Pairwise.nil, hW2, Nat.le_refl _⟩
  have HV := hide hv
  have HNE := hide hne
  have HSZ := hide hsz
  obtain ⟨ao, cap, rfl, -⟩ := hv
  obtain ⟨N, hN⟩ : ∃ N, zs.length = N := ⟨_, rfl⟩
  have HN := hide hN
  rw [hN] at hmk HC0 hl ⊢
  clear hown hgr hW2 hi hz hs hby hne hsz hN
  go_enter Try.func29, Try.ntmps29
  go_wp2_with fail
  go_loopw [11] (fun iv wr => ∃ j ys, j ≤ N ∧ iv = .int .i64 (j : Nat) ∧ Hid (Cp w wr w.heap.size N j zs ys)) (fun iv _ => N - (intOf iv).toNat)
  case atStart => exact ⟨0, [], Nat.zero_le _, rfl, HC0⟩
  case round =>
    obtain ⟨j, ys, hj, rfl, HC⟩ := hrel
    by_cases hlt : j < N
    · have hltI : (j : Int) < (N : Int) := by omega
      have hjz : j < zs.length := by rw [HN.out]; exact hlt
      obtain ⟨ao', cap', e, h1, h2, h4⟩ := HV.out.below HC.out.below
      simp only [Value.slice.injEq] at e
      obtain ⟨rfl, -, rfl⟩ := e
      obtain ⟨g1, off1, rfl, hc⟩ := h4 (by omega)
      obtain ⟨cz, kz⟩ := hc j hjz
      have hzne := HNE.out zs[j] (List.getElem_mem hjz)
      have hzl := HSZ.out zs[j] (List.getElem_mem hjz)
      have hpos := List.length_pos_iff.2 hzne
      obtain ⟨a2, n2, cap2, hzv⟩ : ∃ a2 n2 cap2, zs[j].dv = .slice (some a2) n2 cap2 := by
        obtain ⟨ao2, cap2, e, _, _, h5⟩ := kz
        obtain ⟨g5, off5, e5, _⟩ := h5 hpos
        exact ⟨_, _, cap2, by rw [e, e5]⟩
      rw [hzv] at cz kz
      have HCL := hide (cloneK a2 n2 cap2 zs[j].ks wr kz hpos hzl)
      have HTK : Hid ((zs.take (j + 1)).map Pg.ks = (zs.take j).map Pg.ks ++ [zs[j].ks]) := by
        show _ = _
        rw [List.take_succ_eq_append_getElem hjz]
        simp only [List.map_append, List.map_cons, List.map_nil]
      generalize zs[j].ks = ks at *
      have hrowc := HC.out.row
      have hst1 := hrowc.cellAt j (by omega)
      clear hc h4 h1 h2 hzv hzne hrowc
      have HCc : Hid (∀ W', Below wr.heap.size wr W' → Cp w W' w.heap.size N j zs ys) := fun W' hb => ⟨own_kept (F := fun _ => False) HC.out.row (Fr.of_below hb) (fun _ _ => id), HC.out.len, HC.out.ks, fun y hy => own_kept (F := fun _ => False) (HC.out.data y hy) (Fr.of_below hb) (fun _ _ => id), HC.out.apart, HC.out.below.trans (hb.mono HC.out.below.size), HC.out.ge⟩
      have HYL : Hid (∀ y ∈ ys, ∀ k, y.dv.ownBlock = some k → k < wr.heap.size) := fun y hy k hk => ((HC.out.data y hy).lt k hk).2
      clear hst1
      go_wp2_with fail
      refine Calls.mono HCL.out ?_
      rintro e w6 ⟨g6, cap6, rfl, hge6, hO6, hb6⟩
      have hcp := HCc.out w6 hb6
      have hr6 := hcp.row
      have hlen6 : ys.length = j := hcp.len
      have hcell : w6.cell? ⟨w.heap.size, j, none⟩ = some (.slice none 0 0) := by
        rw [hr6.cellAt j (by omega), List.getElem?_append_right (by rw [dvs_len]; omega), dvs_len, hlen6, Nat.sub_self]
        rw [show N - j = (N - j - 1) + 1 by omega, List.replicate_succ]
        rfl
      have hfz := hr6.frozenAt j
      have HC7 : Hid (Cp w (w6.setCell ⟨w.heap.size, j, none⟩ (.slice (some ⟨g6, 0, none⟩) ks.length cap6)) w.heap.size N (j + 1) zs (ys ++ [⟨.slice (some ⟨g6, 0, none⟩) ks.length cap6, ks⟩])) := by
        have hst := hr6.stored j (.slice (some ⟨g6, 0, none⟩) ks.length cap6)
        have hs6 := hcp.below.size
        have hO6' : w6.ownsRow w.heap.size 47 4 (.slice (some ⟨g6, 0, none⟩) ks.length cap6) ks.length (cellsK ks) := own_base hO6 (fun k hk => by simp [Value.ownBlock] at hk; have := HC.out.below.size; omega)
        have hk47 : ∀ {x : Value} {m : Nat} {cs : List Value}, w6.ownsRow w.heap.size 47 4 x m cs → (w6.setCell ⟨w.heap.size, j, none⟩ (.slice (some ⟨g6, 0, none⟩) ks.length cap6)).ownsRow w.heap.size 47 4 x m cs := fun ho => grown_keep ho hst.2 (fun k e e2 => own_ne hr6 ho (by decide) rfl (by rw [e2, ← e]))
        refine ⟨?_, by simp [hlen6], ?_, fun y hy => ?_, ?_, ?_, Nat.le_refl _⟩
        · have e2 : (dvs ys ++ List.replicate (N - j) (Value.slice none 0 0)).set j (.slice (some ⟨g6, 0, none⟩) ks.length cap6) = dvs (ys ++ [⟨.slice (some ⟨g6, 0, none⟩) ks.length cap6, ks⟩]) ++ List.replicate (N - (j + 1)) (.slice none 0 0) := by
            rw [List.set_append_right _ _ (by rw [dvs_len]; omega), dvs_len, hlen6, Nat.sub_self, show N - j = (N - (j + 1)) + 1 by omega, List.replicate_succ, List.set_cons_zero]
            simp [dvs]
          rw [← e2]
          exact hst.1
        · rw [HTK.out, List.map_append, hcp.ks]; rfl
        · rcases List.mem_append.1 hy with hy | hy
          · exact hk47 (hcp.data y hy)
          · simp at hy
            subst hy
            exact hk47 hO6'
        · refine List.pairwise_append.2 ⟨hcp.apart, List.pairwise_singleton _ _, fun y hy z hz k hk => ?_⟩
          simp at hz
          subst hz
          have := HYL.out y hy k hk
          simp only [Value.ownBlock]
          intro e
          cases e
          omega
        · exact hcp.below.setCell (p := ⟨w.heap.size, j, none⟩) (Nat.le_refl _) _
      clear HCL HCc hcp hr6 hO6 hb6 hge6 HYL
      go_wp2_with fail
      go_roundw
      case rel => exact ⟨j + 1, _, by omega, by simp, HC7⟩
      case measure => simp [intOf]; omega
    · have hltI : ¬ (j : Int) < (N : Int) := by omega
      have e : j = N := by omega
      subst e
      have HE : Hid (Pgs wr (.slice (some ⟨w.heap.size, 0, none⟩) j j) ys ∧ ys.map Pg.ks = zs.map Pg.ks ∧ (∀ k, foot (.slice (some ⟨w.heap.size, 0, none⟩) j j) ys k → w.heap.size ≤ k) ∧ Below w.heap.size w wr) := by
        have hC := HC.out
        refine ⟨⟨?_, fun y hy => own_zero (hC.data y hy), hC.apart⟩, ?_, fun k hk => ?_, hC.below⟩
        · have := hC.row
          rw [Nat.sub_self, List.replicate_zero, List.append_nil] at this
          rw [hC.len]
          exact own_zero this
        · rw [hC.ks, List.take_of_length_le (by rw [HN.out]; omega)]
        · rcases hk with hk | ⟨y, hy, hk⟩
          · simp [Value.ownBlock] at hk; omega
          · exact ((hC.data y hy).lt k hk).1
      clear HC
      go_wp2_with fail
      go_ret
      exact ⟨_, ys, rfl, ⟨_, _, _, rfl⟩, HE.out⟩

set_option maxHeartbeats 1600000 in
theorem copy_any {w : World} {p wd : Nat} {F : Nat → Prop} {R : List (List Int)} (h : St w p wd F R) (hl : R.length ≤ 1000000000) :
    Calls Try.prog 14 #[.pointer (some ⟨p, 0, none⟩)] w fun e W' => ∃ q, e = .returned (.pointer (some ⟨q, 0, none⟩)) ∧ (∃ F', St W' q wd F' R ∧ ∀ k, F' k → w.heap.size ≤ k) ∧ Below w.heap.size w W' := by
  obtain ⟨v, zs, -, h⟩ := h
  have hsz := h.size
  have HC : Hid (∀ W, Below w.heap.size w W → Calls Try.prog 29 #[v] W fun e W' => CpR W zs e W') := fun W hW => copied_any v zs W (h.pgs.below hW).ps h.ne (fun z hz => by have := hsz.1 z hz; omega) (by omega)
  have HSV := hide h
  have c0 := h.box.c 0
  have c1 := h.box.c 1
  simp at c0 c1
  obtain ⟨ao, N, cap, rfl⟩ := own_slice h.pgs.row
  have HEND : Hid (∀ W3 ao' N' cap' ys, Below w.heap.size w W3 → Pgs W3 (.slice ao' N' cap') ys → ys.map Pg.ks = zs.map Pg.ks → (∀ k, foot (.slice ao' N' cap') ys k → w.heap.size ≤ k) → (∃ F', St (W3.alloc (.cells #[.int .i64 (wd : Int), .slice ao' N' cap'] 45)) W3.heap.size wd F' R ∧ ∀ k, F' k → w.heap.size ≤ k) ∧ Below w.heap.size w (W3.alloc (.cells #[.int .i64 (wd : Int), .slice ao' N' cap'] 45))) := fun W3 ao' N' cap' ys hb hP hk hf => by
    have h := HSV.out
    have hkk : keys ys = keys zs := by
      have e1 : keys ys = (ys.map Pg.ks).flatten := by simp [keys, List.flatMap]
      have e2 : keys zs = (zs.map Pg.ks).flatten := by simp [keys, List.flatMap]
      rw [e1, e2, hk]
    refine ⟨⟨_, ⟨_, ys, rfl, Bx.new W3 _ 45, hP.below (below_box _ _), hkk.trans h.ks, fun y hy => ?_, h.up, h.wid, h.le, h.min⟩, fun k hk' => ?_⟩, hb.trans ((below_box W3 _).mono hb.size)⟩
    · have : y.ks ∈ zs.map Pg.ks := by rw [← hk]; exact List.mem_map_of_mem hy
      obtain ⟨z, hz, e⟩ := List.mem_map.1 this
      rw [← e]
      exact h.ne z hz
    · rcases hk' with rfl | hk'
      · exact hb.size
      · exact hf k hk'
  clear h hsz
  have HS0 : Hid (w.drew.cell? ⟨p, 0, none⟩ = some (.int .i64 (wd : Int)) ∧ w.drew.cell? ⟨p, 1, none⟩ = some (.slice ao N cap)) := ⟨c0, c1⟩
  have HCW := hide (HC.out w.drew (Below.refl _ _).drew)
  go_enter Try.func14, Try.ntmps14
  go_wp2_with fail
  refine wp_region_noPanic ?_
  go_region_held (fun w' => w'.cell? ⟨p, 0, none⟩ = some (.int .i64 (wd : Int)) ∧ w'.cell? ⟨p, 1, none⟩ = some (.slice ao N cap))
    (first | with_reducible exact HS0.out | with_reducible exact m6.out | with_reducible exact m7.out _)
    (first | (go_at_call 29; (refine Calls.mono HCW.out ?_); rintro e w6 ⟨v6, ys, rfl, ⟨ao6, N6, cap6, rfl⟩, hP6, hk6, hf6, hb6⟩; have hbw : Below w.heap.size w w6 := (Below.refl _ w).drew.trans hb6; have m6 : Hid (w6.cell? ⟨p, 0, none⟩ = some (.int .i64 (wd : Int)) ∧ w6.cell? ⟨p, 1, none⟩ = some (.slice ao N cap)) := ⟨cell_below' c0 hbw, cell_below' c1 hbw⟩; have m7 : Hid (∀ o, (w6.alloc o).cell? ⟨p, 0, none⟩ = some (.int .i64 (wd : Int)) ∧ (w6.alloc o).cell? ⟨p, 1, none⟩ = some (.slice ao N cap)) := fun o => ⟨cell_below' m6.out.1 (below_box _ o), cell_below' m6.out.2 (below_box _ o)⟩; have HE6 := hide (HEND.out w6 ao6 N6 cap6 ys hbw hP6 hk6 hf6); clear hP6 hk6 hf6 hb6 hbw))
  all_goals refine NoPanic.normal ?_
  all_goals go_wp2_with fail
  all_goals go_ret
  all_goals exact ⟨_, rfl, HE6.out⟩
end Go.Proofs.Ytfjcadkihnecdaa

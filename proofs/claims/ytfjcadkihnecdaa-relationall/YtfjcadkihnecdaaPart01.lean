/- Plain mathematics: keys, their order, rising rows. Worlds, own rows, what a call may have turned: laws on worlds alone, no walk. Rows of numbers in memory; the walks of cmp.Compare, slices.Compare and slices.Equal. The walks of slices.Insert and slices.Delete at files. -/
import Derived.Test.YtfjcadkihnecdaaProg
import Derived.WalkKit
import Derived.Maps.AppendAt
import Derived.Laws.AppendOwnNone
import Derived.Laws.IdiomCopy
import Derived.Deep.AppendSrc
import Derived.Lib.AppendZerosOnto
import Derived.Lib.Overlaps
import Derived.Lib.AppendZeros
import Derived.BigQuiet
import Derived.Lib.QuietBelow
import Derived.Test.YtfjcadkihnecdaaRows
import Derived.Deep.RegionLaw
import Derived.Laws.Externs
import Derived.Lib.SliceRun
namespace Go.Proofs.Ytfjcadkihnecdaa

structure Ky where
  a : Int
  b : Int
  c : Int
  d : Int
def Ky.l (k : Ky) : List Int := [k.a, k.b, k.c, k.d]
theorem Ky.len (k : Ky) : k.l.length = 4 := rfl
theorem Ky.ext' {x y : Ky} (h : x.l = y.l) : x = y := by
  cases x; cases y; simp [Ky.l] at h; obtain ⟨rfl, rfl, rfl, rfl⟩ := h; rfl

/-- Which is first where they part. -/
def cmpL : List Int → List Int → Int
  | [], [] => 0
  | [], _ :: _ => -1
  | _ :: _, [] => 1
  | x :: xs, y :: ys => if x < y then -1 else if y < x then 1 else cmpL xs ys

theorem cmpL_self : ∀ x : List Int, cmpL x x = 0
  | [] => rfl
  | x :: xs => by simp [cmpL, cmpL_self xs]
theorem cmpL_neg : ∀ x y : List Int, cmpL y x = - cmpL x y
  | [], [] => rfl
  | [], _ :: _ => rfl
  | _ :: _, [] => rfl
  | x :: xs, y :: ys => by
    have ih := cmpL_neg xs ys
    simp only [cmpL]
    split
    · rw [if_neg (by omega)]
    · split
      · rfl
      · exact ih
theorem cmpL_eq : ∀ {x y : List Int}, cmpL x y = 0 → x = y
  | [], [], _ => rfl
  | [], _ :: _, h => by simp [cmpL] at h
  | _ :: _, [], h => by simp [cmpL] at h
  | x :: xs, y :: ys, h => by
    simp only [cmpL] at h
    split at h
    · omega
    · split at h
      · omega
      · have := cmpL_eq h
        rw [this, show x = y by omega]
theorem cmpL_zero (x y : List Int) : cmpL x y = 0 ↔ x = y := ⟨cmpL_eq, fun h => by rw [h, cmpL_self]⟩
theorem cmpL_trans : ∀ {x y z : List Int}, cmpL x y < 0 → cmpL y z < 0 → cmpL x z < 0
  | [], [], _, h, _ => by simp [cmpL] at h
  | [], _ :: _, [], _, h => by simp [cmpL] at h
  | [], _ :: _, _ :: _, _, _ => by simp [cmpL]
  | _ :: _, [], _, h, _ => by simp [cmpL] at h
  | _ :: _, _ :: _, [], _, h => by simp [cmpL] at h
  | x :: xs, y :: ys, z :: zs, h1, h2 => by
    simp only [cmpL] at h1 h2 ⊢
    by_cases a1 : x < y
    · by_cases b1 : y < z
      · rw [if_pos (by omega)]; omega
      · rw [if_neg b1] at h2
        by_cases b2 : z < y
        · rw [if_pos b2] at h2; omega
        · rw [if_pos (by omega)]; omega
    · rw [if_neg a1] at h1
      by_cases a2 : y < x
      · rw [if_pos a2] at h1; omega
      · rw [if_neg a2] at h1
        have e : x = y := by omega
        subst e
        by_cases b1 : x < z
        · rw [if_pos b1]; omega
        · rw [if_neg b1] at h2 ⊢
          by_cases b2 : z < x
          · rw [if_pos b2] at h2; omega
          · rw [if_neg b2] at h2 ⊢
            exact cmpL_trans h1 h2
theorem cmpL_cases (x y : List Int) : cmpL x y < 0 ∨ x = y ∨ cmpL y x < 0 := by
  have := cmpL_neg x y
  by_cases h : cmpL x y = 0
  · exact .inr (.inl (cmpL_eq h))
  · omega
theorem cmpL_le_trans {x y z : List Int} (h1 : ¬ cmpL y x < 0) (h2 : cmpL y z < 0) : cmpL x z < 0 := by
  rcases cmpL_cases x y with h | h | h
  · exact cmpL_trans h h2
  · rw [h]; exact h2
  · exact absurd h h1
/-- What begins is ordered as the whole, or is the same. -/
theorem cmpL_take : ∀ (n : Nat) (x y : List Int), cmpL x y < 0 → ¬ cmpL (y.take n) (x.take n) < 0
  | 0, x, y, _ => by simp [cmpL]
  | n + 1, [], y, h => by cases y <;> simp [cmpL]
  | n + 1, x :: xs, [], h => by simp [cmpL] at h
  | n + 1, x :: xs, y :: ys, h => by
    simp only [cmpL, List.take_succ_cons] at h ⊢
    by_cases a1 : x < y
    · rw [if_neg (by omega), if_pos a1]; omega
    · rw [if_neg a1] at h
      by_cases a2 : y < x
      · rw [if_pos a2] at h; omega
      · rw [if_neg a2] at h
        rw [if_neg a2, if_neg a1]
        exact cmpL_take n xs ys h

def Lt (x y : List Int) : Prop := cmpL x y < 0
/-- Rising. -/
def Up (R : List (List Int)) : Prop := R.Pairwise Lt
theorem Lt.trans {x y z : List Int} (h : Lt x y) (k : Lt y z) : Lt x z := cmpL_trans h k
theorem Lt.irr (x : List Int) : ¬ Lt x x := by simp [Lt, cmpL_self]
theorem Lt.asym {x y : List Int} (h : Lt x y) : ¬ Lt y x := fun k => Lt.irr x (h.trans k)

/-- A row as a key. -/
def kyOf (r : List Int) : Ky := ⟨r.getD 0 0, r.getD 1 0, r.getD 2 0, r.getD 3 0⟩
theorem kyOf_l (r : List Int) (h : r.length ≤ 4) : (kyOf r).l = r ++ List.replicate (4 - r.length) 0 := by
  match r, h with
  | [], _ => rfl
  | [_], _ => rfl
  | [_, _], _ => rfl
  | [_, _, _], _ => rfl
  | [_, _, _, _], _ => rfl
  | _ :: _ :: _ :: _ :: _ :: _, h => simp at h
theorem cmpL_append : ∀ (x y z : List Int), x.length = y.length → cmpL (x ++ z) (y ++ z) = cmpL x y
  | [], [], z, _ => cmpL_self z
  | [], _ :: _, _, h => by simp at h
  | _ :: _, [], _, h => by simp at h
  | x :: xs, y :: ys, z, h => by
    simp only [List.cons_append, cmpL]
    rw [cmpL_append xs ys z (by simpa using h)]
theorem cmp_ky {x y : List Int} (h : x.length = y.length) (h4 : y.length ≤ 4) : cmpL (kyOf x).l (kyOf y).l = cmpL x y := by
  rw [kyOf_l x (by omega), kyOf_l y h4, h, cmpL_append _ _ _ h]
theorem kyOf_take (r : List Int) (h : r.length ≤ 4) : (kyOf r).l.take r.length = r := by rw [kyOf_l r h]; simp
theorem kyOf_inj {x y : List Int} (h : x.length = y.length) (h4 : y.length ≤ 4) (e : kyOf x = kyOf y) : x = y := by
  rw [← kyOf_take x (by omega), ← kyOf_take y h4, e, h]

/-- Does it have the numbers that are asked for? -/
def ansB (asked : List Int) (r : List Int) : Bool := (asked.zip r).all fun p => decide (p.1 ≤ 0) || decide (p.1 = p.2)
def leadN (a : List Int) : Nat := (a.takeWhile fun n => decide (0 < n)).length
theorem leadN_le (a : List Int) : leadN a ≤ a.length := by unfold leadN; exact (List.takeWhile_prefix _).length_le
def lowL (a : List Int) (n : Nat) : List Int := a.take n ++ List.replicate (a.length - n) (-9223372036854775808)
theorem ans_take : ∀ (asked r : List Int), asked.length = r.length → ansB asked r = true → r.take (leadN asked) = asked.take (leadN asked)
  | [], [], _, _ => rfl
  | [], _ :: _, h, _ => by simp at h
  | _ :: _, [], h, _ => by simp at h
  | a :: al, x :: xs, h, hA => by
    simp only [ansB, List.zip_cons_cons, List.all_cons, Bool.and_eq_true] at hA
    unfold leadN
    by_cases hp : 0 < a
    · rw [List.takeWhile_cons_of_pos (by simpa using hp)]
      simp only [List.length_cons, List.take_succ_cons]
      have h1 := hA.1
      simp only [Bool.or_eq_true, decide_eq_true_eq] at h1
      have ih := ans_take al xs (by simpa using h) hA.2
      unfold leadN at ih
      rw [ih, show a = x by omega]
    · rw [List.takeWhile_cons_of_neg (by simpa using hp)]
      simp
theorem low_le : ∀ (a x : List Int), a.length = x.length → (∀ n ∈ x, -9223372036854775808 ≤ n) → (k : Nat) → x.take k = a.take k → ¬ cmpL x (lowL a k) < 0
  | [], [], _, _, k, _ => by simp [lowL, cmpL]
  | [], _ :: _, h, _, _, _ => by simp at h
  | _ :: _, [], h, _, _, _ => by simp at h
  | a :: al, x :: xs, h, hm, 0, _ => by
    have ih := low_le al xs (by simpa using h) (fun n hn => hm n (by simp [hn])) 0 (by simp)
    have hx := hm x (by simp)
    simp only [lowL, List.take_zero, List.nil_append, List.length_cons, Nat.sub_zero, List.replicate_succ] at ih ⊢
    simp only [cmpL]
    rw [if_neg (by omega)]
    split
    · omega
    · exact ih
  | a :: al, x :: xs, h, hm, k + 1, e => by
    simp only [List.take_succ_cons, List.cons.injEq] at e
    have ih := low_le al xs (by simpa using h) (fun n hn => hm n (by simp [hn])) k e.2
    simp only [lowL, List.take_succ_cons, List.cons_append, List.length_cons] at ih ⊢
    simp only [cmpL]
    rw [e.1, if_neg (by omega), if_neg (by omega), show al.length + 1 - (k + 1) = al.length - k by omega]
    exact ih
theorem low_take (a : List Int) (k : Nat) (h : k ≤ a.length) : (lowL a k).take k = a.take k := by
  unfold lowL
  rw [List.take_append_of_le_length (by simp; omega), List.take_take]
  simp
theorem low_len (a : List Int) (k : Nat) (h : k ≤ a.length) : (lowL a k).length = a.length := by simp [lowL]; omega

/-- Of rising keys those that answer are those of a front of the ones that are not below. -/
theorem match_same (asked : List Int) (A B C : List Ky) (hl : asked.length = 4) (hm : ∀ k ∈ A, ∀ n ∈ k.l, -9223372036854775808 ≤ n)
    (hA : ∀ k ∈ A, cmpL k.l (lowL asked (leadN asked)) < 0) (hup : (B ++ C).Pairwise fun x y => cmpL x.l y.l < 0)
    (hC : ∀ k q, C = k :: q → ¬ cmpL k.l (lowL asked (leadN asked)) < 0 ∧ k.l.take (leadN asked) ≠ asked.take (leadN asked)) :
    (A ++ B ++ C).filter (fun k => ansB asked k.l) = B.filter (fun k => ansB asked k.l) := by
  have hn := leadN_le asked
  have e1 : A.filter (fun k => ansB asked k.l) = [] := by
    rw [List.filter_eq_nil_iff]
    intro k hk hans
    exact low_le asked k.l (by rw [hl]; rfl) (hm k hk) (leadN asked) (ans_take asked k.l (by rw [hl]; rfl) hans) (hA k hk)
  have e2 : C.filter (fun k => ansB asked k.l) = [] := by
    cases C with
    | nil => rfl
    | cons k q =>
      obtain ⟨h1, h2⟩ := hC k q rfl
      have hpar : cmpL (asked.take (leadN asked)) (k.l.take (leadN asked)) < 0 := by
        have h3 : cmpL (lowL asked (leadN asked)) k.l < 0 := by
          rcases cmpL_cases (lowL asked (leadN asked)) k.l with h | h | h
          · exact h
          · exact absurd (by rw [← h, low_take _ _ hn]) h2
          · exact absurd h h1
        have h4 := cmpL_take (leadN asked) _ _ h3
        rw [low_take _ _ hn] at h4
        rcases cmpL_cases (asked.take (leadN asked)) (k.l.take (leadN asked)) with h | h | h
        · exact h
        · exact absurd h.symm h2
        · exact absurd h h4
      rw [List.filter_eq_nil_iff]
      intro z hz hans
      have hz1 := ans_take asked z.l (by rw [hl]; rfl) hans
      rcases List.mem_cons.1 hz with rfl | hz
      · exact h2 hz1
      · have hkz : cmpL k.l z.l < 0 := (List.pairwise_cons.1 (List.pairwise_append.1 hup).2.1).1 z hz
        have h5 := cmpL_take (leadN asked) _ _ hkz
        rw [hz1] at h5
        exact h5 hpar
  rw [List.filter_append, List.filter_append, e1, e2]
  simp
theorem ans_ky : ∀ (a r : List Int), a.length = r.length → ∀ z, ansB (a ++ List.replicate z 0) (r ++ List.replicate z 0) = ansB a r
  | [], [], _, z => by
    simp only [List.nil_append, ansB, List.zip_nil_left, List.all_nil]
    rw [List.all_eq_true]
    intro p hp
    have := List.of_mem_zip hp
    rw [(List.mem_replicate.1 this.1).2]
    rfl
  | [], _ :: _, h, _ => by simp at h
  | _ :: _, [], h, _ => by simp at h
  | a :: al, x :: xs, h, z => by
    have ih := ans_ky al xs (by simpa using h) z
    simp only [ansB, List.cons_append, List.zip_cons_cons, List.all_cons] at ih ⊢
    rw [ih]
theorem ans_kyOf {a r : List Int} (h : a.length = r.length) (h4 : r.length ≤ 4) : ansB (kyOf a).l (kyOf r).l = ansB a r := by
  rw [kyOf_l a (by omega), kyOf_l r h4, h, ans_ky _ _ h]
end Go.Proofs.Ytfjcadkihnecdaa
namespace Go.Proofs.Ytfjcadkihnecdaa
open Go.RowKit

theorem cell_lt {w : World} {g o : Nat} {u : Value} (h : w.cell? ⟨g, o, none⟩ = some u) : g < w.heap.size := World.block_lt_of_cell? w ⟨g, o, none⟩ h

theorem grown_refl (w : World) (row : Option Nat) : w.grownBy w row := ⟨rfl, rfl, rfl, Nat.le_refl _, fun _ _ _ => rfl⟩


theorem grown_refl' (w : World) (row : Option Nat) : w.grownBy w row := grown_refl w row

/-- What a call may have turned: blocks of F alone, and new ones. -/
structure Fr (F : Nat → Prop) (w w' : World) : Prop where
  os : w'.os = w.os
  tape : w'.tape = w.tape
  output : w'.output = w.output
  size : w.heap.size ≤ w'.heap.size
  block : ∀ k, k < w.heap.size → ¬ F k → w'.heap[k]? = w.heap[k]?

theorem Fr.refl (F : Nat → Prop) (w : World) : Fr F w w := ⟨rfl, rfl, rfl, Nat.le_refl _, fun _ _ _ => rfl⟩
theorem Fr.trans {F G : Nat → Prop} {a b c : World} (h : Fr F a b) (k : Fr G b c) (hg : ∀ x, x < a.heap.size → G x → F x) : Fr F a c :=
  ⟨k.os.trans h.os, k.tape.trans h.tape, k.output.trans h.output, Nat.le_trans h.size k.size, fun i hi hF => (k.block i (Nat.lt_of_lt_of_le hi h.size) (fun hG => hF (hg i hi hG))).trans (h.block i hi hF)⟩
theorem Fr.mono {F G : Nat → Prop} {a b : World} (h : Fr F a b) (hg : ∀ x, x < a.heap.size → F x → G x) : Fr G a b :=
  ⟨h.os, h.tape, h.output, h.size, fun i hi hG => h.block i hi (fun hF => hG (hg i hi hF))⟩
theorem Fr.of_below {F : Nat → Prop} {w w' : World} (h : Below w.heap.size w w') : Fr F w w' := ⟨h.os, h.tape, h.output, h.size, fun k hk _ => h.block k hk⟩
theorem Fr.below {F : Nat → Prop} {w w' : World} {B : Nat} (h : Fr F w w') (hF : ∀ k, F k → B ≤ k) (hB : B ≤ w.heap.size) : Below B w w' :=
  ⟨h.os, h.tape, h.output, h.size, fun k hk => h.block k (by omega) (fun hk' => by have := hF k hk'; omega)⟩
theorem Fr.of_grown {F : Nat → Prop} {w w' : World} {row : Option Nat} (h : w.grownBy w' row) (hr : ∀ k, row = some k → F k) : Fr F w w' :=
  ⟨h.os, h.tape, h.output, h.size, fun k hk hF => h.block k hk (fun e => hF (hr k e.symm))⟩
theorem Fr.alloc {F : Nat → Prop} {a w : World} (h : Fr F a w) (o : Obj) : Fr F a (w.alloc o) :=
  h.trans (G := F) (Fr.of_below ((Below.refl _ _).alloc (Nat.le_refl _) o)) (fun _ _ h => h)
theorem Fr.drew {F : Nat → Prop} {a w : World} (h : Fr F a w) : Fr F a w.drew := ⟨h.os, h.tape, h.output, h.size, h.block⟩
theorem Fr.setCell {F : Nat → Prop} {a w : World} (h : Fr F a w) {p : Addr} (hp : p.block < a.heap.size → F p.block) (u : Value) : Fr F a (w.setCell p u) :=
  h.trans (G := fun k => k = p.block) ⟨rfl, rfl, rfl, by simp [World.setCell], fun k _ hk => Below.heap_setCell _ _ _ _ hk⟩ (fun _ hx e => by rw [e] at hx ⊢; exact hp hx)
theorem Fr.cell {F : Nat → Prop} {w w' : World} (h : Fr F w w') {p : Addr} {u : Value} (hc : w.cell? p = some u) (hp : ¬ F p.block) : w'.cell? p = some u :=
  (World.cell?_of_block (h.block p.block (World.block_lt_of_cell? w p hc) hp)).trans hc

/-- What was F's, and what is new. -/
def ext (F : Nat → Prop) (w w' : World) : Nat → Prop := fun k => F k ∨ (w.heap.size ≤ k ∧ k < w'.heap.size)

theorem own_kept {F : Nat → Prop} {w w' : World} {base e size n : Nat} {v : Value} {xs : List Value} (h : w.ownsRow base e size v n xs) (hf : Fr F w w') (hn : ∀ k, v.ownBlock = some k → ¬ F k) : w'.ownsRow base e size v n xs := by
  refine ⟨h.1, ?_⟩
  rcases h.2 with hn' | ⟨g, cap, cur, rfl, hb, hgg, rest⟩
  · exact .inl hn'
  · refine .inr ⟨g, cap, cur, rfl, hb, ?_, rest⟩
    rw [hf.block g (Array.getElem?_eq_some_iff.1 hgg).1 (hn g rfl)]
    exact hgg
theorem own_base {w : World} {base base' e size n : Nat} {v : Value} {xs : List Value} (h : w.ownsRow base e size v n xs) (hb : ∀ k, v.ownBlock = some k → base' ≤ k) : w.ownsRow base' e size v n xs := by
  refine ⟨h.1, ?_⟩
  rcases h.2 with hn' | ⟨g, cap, cur, rfl, _, rest⟩
  · exact .inl hn'
  · exact .inr ⟨g, cap, cur, rfl, hb g rfl, rest⟩
theorem own_zero {w : World} {base e size n : Nat} {v : Value} {xs : List Value} (h : w.ownsRow base e size v n xs) : w.ownsRow 0 e size v n xs := own_base h fun _ _ => Nat.zero_le _
theorem own_ne {w : World} {b b' e e' s s' n n' : Nat} {v v' : Value} {xs xs' : List Value} (h : w.ownsRow b e s v n xs) (h' : w.ownsRow b' e' s' v' n' xs') (he : e ≠ e') {k : Nat} (hk : v.ownBlock = some k) : v'.ownBlock ≠ some k := by
  intro hk'
  rcases h.2 with ⟨rfl, _⟩ | ⟨g, cap, cur, rfl, _, hg, _⟩
  · simp [Value.ownBlock] at hk
  · rcases h'.2 with ⟨rfl, _⟩ | ⟨g', cap', cur', rfl, _, hg', _⟩
    · simp [Value.ownBlock] at hk'
    · simp [Value.ownBlock] at hk hk'
      subst hk hk'
      rw [hg] at hg'
      simp at hg'
      exact he hg'.2
theorem own_shape {w : World} {b e s n : Nat} {v : Value} {xs : List Value} (h : w.ownsRow b e s v n xs) : (v = .slice none 0 0 ∧ n = 0) ∨ ∃ g cap, v = .slice (some ⟨g, 0, none⟩) n cap ∧ n ≤ cap ∧ cap ≤ maxLen ∧ g < w.heap.size := by
  rcases h.2 with h | ⟨g, cap, cur, rfl, _, hg, h1, h2, _⟩
  · exact .inl h
  · exact .inr ⟨g, cap, rfl, h1, h2, (Array.getElem?_eq_some_iff.1 hg).1⟩

theorem heap_set {w : World} {b o : Nat} {cs : Array Value} {T : TypeId} {fr : Nat × Nat} (hb : w.heap[b]? = some (.cells cs T fr)) (v : Value) : (w.setCell ⟨b, o, none⟩ v).heap[b]? = some (.cells (cs.setIfInBounds o v) T fr) := by
  simp [World.setCell, Array.getElem?_modify, hb]
theorem setCell_self {w : World} {b o : Nat} {v : Value} (h : w.cell? ⟨b, o, none⟩ = some v) (k : Nat) : (w.setCell ⟨b, o, none⟩ v).heap[k]? = w.heap[k]? := by
  by_cases hk : k = b
  · subst hk
    cases hb : w.heap[k]? with
    | none => simp [World.cell?, hb] at h
    | some ob =>
      cases ob with
      | cells cs T fr =>
        rw [heap_set hb]
        have hv : cs[o]? = some v := by simpa [World.cell?, hb] using h
        have : cs.setIfInBounds o v = cs := by
          apply Array.ext_getElem?
          intro i
          rw [Array.getElem?_setIfInBounds]
          split
          · subst_vars
            obtain ⟨h1, h2⟩ := Array.getElem?_eq_some_iff.1 hv
            simp [h1, h2]
          · rfl
        rw [this]
      | _ => simp [World.cell?, hb] at h
  · exact Below.heap_setCell _ _ _ _ hk
theorem Fr.of_self {F : Nat → Prop} {w w' : World} {b o : Nat} {v : Value} (h : w.cell? ⟨b, o, none⟩ = some v) (hf : Fr F w w') : Fr F (w.setCell ⟨b, o, none⟩ v) w' :=
  ⟨hf.os, hf.tape, hf.output, by simpa [World.setCell] using hf.size, fun k hk hF => by rw [setCell_self h]; exact hf.block k (by simpa [World.setCell] using hk) hF⟩

theorem own_one {w : World} {b e s n : Nat} {v : Value} {xs : List Value} (h : w.ownsRow b e s v n xs) : v.oneCell' = true := by
  rcases own_shape h with ⟨rfl, _⟩ | ⟨g, cap, rfl, _⟩ <;> rfl
theorem own_slice {w : World} {b e s n : Nat} {v : Value} {xs : List Value} (h : w.ownsRow b e s v n xs) : ∃ ao L cap, v = .slice ao L cap := by
  rcases own_shape h with ⟨rfl, _⟩ | ⟨g, cap, rfl, _⟩ <;> exact ⟨_, _, _, rfl⟩
theorem ext_lt {F : Nat → Prop} {w w' : World} (hF : ∀ k, F k → k < w.heap.size) (hs : w.heap.size ≤ w'.heap.size) : ∀ k, ext F w w' k → k < w'.heap.size := by
  intro k hk
  rcases hk with hk | hk
  · have := hF k hk; omega
  · exact hk.2
theorem Fr.set_both {F : Nat → Prop} {w w' : World} (h : Fr F w w') (a : Addr) (u : Value) : Fr F (w.setCell a u) (w'.setCell a u) := by
  refine ⟨h.os, h.tape, h.output, by simpa [World.setCell] using h.size, fun k hk hF => ?_⟩
  have hb := h.block k (by simpa [World.setCell] using hk) hF
  simp only [World.setCell, Array.getElem?_modify, hb]

theorem ext_from {F : Nat → Prop} {w w1 w' : World} (h : w.heap.size ≤ w1.heap.size) : ∀ k, ext F w1 w' k → ext F w w' k := fun k hk => by
  rcases hk with hk | hk
  · exact Or.inl hk
  · exact Or.inr ⟨by omega, hk.2⟩
theorem ext_ext {F : Nat → Prop} {w w1 w2 w3 : World} (h1 : w.heap.size ≤ w1.heap.size) (h2 : w1.heap.size ≤ w2.heap.size) (h3 : w2.heap.size ≤ w3.heap.size) : ∀ k, ext (ext F w1 w2) w2 w3 k → ext F w w3 k := fun k hk => by
  rcases hk with (hk | hk) | hk
  · exact Or.inl hk
  · exact Or.inr ⟨by omega, by omega⟩
  · exact Or.inr ⟨by omega, hk.2⟩
theorem Fr.frozen {F : Nat → Prop} {w w' : World} (h : Fr F w w') {p : Addr} {u : Value} (hc : w.cell? p = some u) (hp : ¬ F p.block) : w'.frozen? p = w.frozen? p :=
  World.frozen?_of_block (h.block p.block (World.block_lt_of_cell? w p hc) hp)
theorem setCell_size (w : World) (a : Addr) (u : Value) : (w.setCell a u).heap.size = w.heap.size := by simp [World.setCell]
theorem setCell_twice (w : World) (b o : Nat) (x y : Value) (k : Nat) : ((w.setCell ⟨b, o, none⟩ x).setCell ⟨b, o, none⟩ y).heap[k]? = (w.setCell ⟨b, o, none⟩ y).heap[k]? := by
  simp only [World.setCell, Array.getElem?_modify]
  split
  · cases w.heap[k]? with
    | none => rfl
    | some ob => cases ob <;> simp
  · rfl
theorem Fr.one (w : World) (b o : Nat) (u : Value) : Fr (fun k => k = b) w (w.setCell ⟨b, o, none⟩ u) := Fr.setCell (p := ⟨b, o, none⟩) (Fr.refl (fun k => k = b) w) (fun _ => rfl) u

def put (L : List Value) (o : Nat) (vs : List Value) : List Value := L.take o ++ vs ++ L.drop (o + vs.length)
theorem put_len (L : List Value) (o : Nat) (vs : List Value) (h : o + vs.length ≤ L.length) : (put L o vs).length = L.length := by
  simp [put]; omega
theorem put_get (L : List Value) (o : Nat) (vs : List Value) (h : o + vs.length ≤ L.length) (j : Nat) : (put L o vs)[j]? = if o ≤ j ∧ j < o + vs.length then vs[j - o]? else L[j]? := by
  unfold put
  have hl : (L.take o).length = o := by simp; omega
  by_cases h1 : j < o
  · rw [List.append_assoc, List.getElem?_append_left (by omega), List.getElem?_take, if_pos h1, if_neg (by omega)]
  · by_cases h2 : j < o + vs.length
    · rw [if_pos (by omega), List.append_assoc, List.getElem?_append_right (by omega), hl, List.getElem?_append_left (by omega)]
    · rw [if_neg (by omega), List.getElem?_append_right (by simp; omega)]
      simp only [List.length_append, hl, List.getElem?_drop]
      congr 1
      omega
theorem put_nil (L : List Value) (o : Nat) : put L o [] = L := by simp [put]
theorem put_cons (L : List Value) (o : Nat) (v : Value) (vs : List Value) (h : o + (vs.length + 1) ≤ L.length) : put (L.set o v) (o + 1) vs = put L o (v :: vs) := by
  apply List.ext_getElem?
  intro j
  rw [put_get _ _ _ (by simp; omega), put_get _ _ _ (by simp; omega), List.getElem?_set]
  by_cases h1 : j < o
  · rw [if_neg (by omega), if_neg (by omega), if_neg (by simp; omega)]
  · by_cases h2 : j = o
    · subst h2
      rw [if_neg (by omega), if_pos (by simp)]
      simp
      omega
    · by_cases h3 : j < o + (vs.length + 1)
      · rw [if_pos (by omega), if_pos (by simp; omega)]
        obtain ⟨q, rfl⟩ : ∃ q, j = o + 1 + q := ⟨j - (o + 1), by omega⟩
        rw [Nat.add_sub_cancel_left, show o + 1 + q - o = q + 1 by omega]
        rfl
      · rw [if_neg (by omega), if_neg (by omega), if_neg (by simp; omega)]

theorem heap_setCells {b : Nat} {T : TypeId} {fr : Nat × Nat} : ∀ (vs : List Value) (o : Nat) (w : World) (cs : Array Value), w.heap[b]? = some (.cells cs T fr) → o + vs.length ≤ cs.size → (w.setCells b o vs).heap[b]? = some (.cells (put cs.toList o vs).toArray T fr)
  | [], o, w, cs, h, _ => by simp [World.setCells, put_nil, h]
  | v :: vs, o, w, cs, h, hl => by
    rw [World.setCells, heap_setCells vs (o + 1) _ _ (heap_set h v) (by simp at hl ⊢; omega)]
    rw [Array.toList_setIfInBounds, put_cons _ _ _ _ (by simpa using hl)]
theorem setCells_other {b : Nat} : ∀ (vs : List Value) (o : Nat) (w : World) (k : Nat), k ≠ b → (w.setCells b o vs).heap[k]? = w.heap[k]?
  | [], _, _, _, _ => rfl
  | v :: vs, o, w, k, h => by rw [World.setCells, setCells_other vs _ _ k h, Below.heap_setCell _ _ _ _ h]
theorem setCells_same {b : Nat} : ∀ (vs : List Value) (o : Nat) (w : World), (w.setCells b o vs).os = w.os ∧ (w.setCells b o vs).tape = w.tape ∧ (w.setCells b o vs).output = w.output ∧ (w.setCells b o vs).heap.size = w.heap.size
  | [], _, _ => ⟨rfl, rfl, rfl, rfl⟩
  | v :: vs, o, w => by
    obtain ⟨h1, h2, h3, h4⟩ := setCells_same vs (o + 1) (w.setCell ⟨b, o, none⟩ v)
    exact ⟨h1, h2, h3, h4.trans (by simp [World.setCell])⟩
theorem grown_setCells (b : Nat) (vs : List Value) (o : Nat) (w : World) : w.grownBy (w.setCells b o vs) (some b) := by
  obtain ⟨h1, h2, h3, h4⟩ := setCells_same (b := b) vs o w
  exact ⟨h1, h2, h3, by omega, fun k _ hk => setCells_other vs o w k (fun e => hk (by rw [e]))⟩
theorem grown_drew {w w' : World} {row : Option Nat} (h : w.grownBy w' row) : w.grownBy w'.drew row := ⟨h.os, h.tape, h.output, h.size, h.block⟩
theorem grown_drew_left {w w' : World} {row : Option Nat} (h : w.drew.grownBy w' row) : w.grownBy w' row := ⟨h.os, h.tape, h.output, h.size, h.block⟩

theorem own_of_heap {w : World} {g n cap size : Nat} {e : TypeId} {cur : Array Value} {xs : List Value} (hg : w.heap[g]? = some (.cells cur e (0, 0))) (hn : n ≤ cap) (hc : cap ≤ maxLen) (hs : cur.size = cap * size) (ht : cur.toList.take (n * size) = xs) :
    w.ownsRow 0 e size (.slice (some ⟨g, 0, none⟩) n cap) n xs := by
  refine ⟨?_, Or.inr ⟨g, cap, cur, rfl, Nat.zero_le _, hg, hn, hc, hs, ht⟩⟩
  rw [← ht, List.length_take, Array.length_toList, hs]
  exact Nat.min_eq_left (Nat.mul_le_mul_right _ hn)

variable {P : Program}
theorem run_copy_sz {sz : Nat} (w : World) (dT sT ty elem : TypeId) (i : TypeInfo) (b o dLen dCap : Nat) (a : Addr) (sLen sCap : Nat) (cs : List Value)
    (hu : P.underlying dT = some (.slice elem)) (hq : P.info? elem = some i) (hs : i.size = sz) (hn : cs.length = Nat.min sLen dLen * sz)
    (hsrc : ∀ j v, cs[j]? = some v → w.cell? (a.add j) = some v) (hc : ∀ j, j < cs.length → (w.cell? ⟨b, o + j, none⟩).isSome = true) (hf : ∀ j, j < cs.length → w.frozen? ⟨b, o + j, none⟩ = false) (h1 : ∀ v ∈ cs, v.oneCell' = true) :
    (Builtin.copy_ #[dT, sT] ty #[.slice (some ⟨b, o, none⟩) dLen dCap, .slice (some a) sLen sCap]).run P w = .ok (goInt (Nat.min sLen dLen)) (w.setCells b o cs) := by
  have hl := run_loadCells_list (P := P) w a cs hsrc
  have hst := run_storeCells_cells (P := P) b o cs 0 w (by simpa using hc) (by simpa using hf) h1
  simp [Builtin.copy_, run_underlying hu, Builtin.lenOf, Builtin.firstCells, sizeOf, typeInfo, hq, hs, ← hn, hl, hst]

theorem append_types (w : World) (t e ty t1 t2 e1 e2 : TypeId) (i : TypeInfo) (base : Option Addr) (n c : Nat) (y : Value) (ht : P.underlying t = some (.slice e)) (hi : P.info? e = some i) (h1 : P.underlying t1 = some (.slice e1)) (h2 : P.underlying t2 = some (.slice e2)) :
    (Builtin.append_ #[t, t1] ty #[.slice base n c, y]).run P w = (Builtin.append_ #[t, t2] ty #[.slice base n c, y]).run P w := by
  simp [Builtin.append_, run_underlying ht, run_underlying h1, run_underlying h2, sizeOf, typeInfo, hi]


/-- 'clear' of one element. -/
theorem run_clear_sz (w : World) (t e ty : TypeId) (z : Value) (cs : List Value) (ht : P.underlying t = some (.slice e)) (hv : ∀ w, (zeroValue e).run P w = .ok z w) (hz : (Builtin.zeroCells z.cells 1).toList = cs) (h1 : ∀ u ∈ cs, u.oneCell' = true) (g o c : Nat)
    (hc : ∀ j, j < cs.length → (w.cell? ⟨g, o + j, none⟩).isSome = true) (hf : ∀ j, j < cs.length → w.frozen? ⟨g, o + j, none⟩ = false) :
    (Builtin.clear_ #[t] ty #[.slice (some ⟨g, o, none⟩) 1 c]).run P w = .ok (.tuple #[]) (w.setCells g o cs) := by
  have hst := run_storeCells_cells (P := P) g o cs 0 w (by simpa using hc) (by simpa using hf) h1
  simp only [Nat.add_zero] at hst
  simp [Builtin.clear_, run_underlying ht, hv, hz, hst]
end Go.Proofs.Ytfjcadkihnecdaa
namespace Go.Proofs.Ytfjcadkihnecdaa
open Go.RowKit

theorem hide {p : Prop} (h : p) : Hid p := h
theorem cell_below' {w w' : World} {p : Addr} {x : Value} (h : w.cell? p = some x) (hb : Below w.heap.size w w') : w'.cell? p = some x :=
  (World.cell?_of_block (hb.block p.block (World.block_lt_of_cell? w p h))).trans h

def atI (ns : List Int) (j : Nat) : Int := ns.getD j 0
/-- A slice value that reads as these numbers. -/
def Is (w : World) (v : Value) (ns : List Int) : Prop :=
  ∃ ao cap, v = .slice ao ns.length cap ∧ ns.length ≤ cap ∧ cap ≤ maxLen ∧
    (0 < ns.length → ∃ g off, ao = some ⟨g, off, none⟩ ∧ ∀ j, j < ns.length → w.cell? ⟨g, off + j, none⟩ = some (.int .i64 (atI ns j)))
theorem Is.below {w w' : World} {v : Value} {ns : List Int} (h : Is w v ns) (hb : Below w.heap.size w w') : Is w' v ns := by
  obtain ⟨ao, cap, hv, h1, h2, h4⟩ := h
  refine ⟨ao, cap, hv, h1, h2, fun hp => ?_⟩
  obtain ⟨g, off, ha, hc⟩ := h4 hp
  exact ⟨g, off, ha, fun j hj => cell_below' (hc j hj) hb⟩
theorem atI_at {ns : List Int} {k : Nat} (h : k < ns.length) : ns.drop k = atI ns k :: ns.drop (k + 1) := by
  rw [List.drop_eq_getElem_cons h, atI, List.getD, List.getElem?_eq_getElem h]
  rfl

theorem drop_nil (l : List Int) {k : Nat} (h : l.length ≤ k) : l.drop k = [] := List.drop_eq_nil_of_le h
def sgn (x y : Int) : Int := if x < y then -1 else if y < x then 1 else 0
theorem isNaN_any (x : Int) (w : World) : Calls Try.prog 51 #[.int .i64 x] w fun e w' => e = .returned (.bool false) ∧ w' = w := by
  go_enter Try.func51, Try.ntmps51
  go_wp2
  go_ret
  exact ⟨by simp, rfl⟩
theorem compare_any (x y : Int) (w : World) : Calls Try.prog 47 #[.int .i64 x, .int .i64 y] w fun e w' => e = .returned (.int .i64 (sgn x y)) ∧ w' = w := by
  have H1 := hide (isNaN_any x w)
  have H2 := hide (isNaN_any y w)
  unfold sgn
  by_cases h1 : x < y
  · rw [if_pos h1]
    go_enter Try.func47, Try.ntmps47
    go_wp2_with (first
      | (go_at_call 51; refine Calls.mono H1.out ?_; rintro e w' ⟨rfl, hw⟩; have hw' := hw.symm; subst hw'; clear hw)
      | (go_at_call 51; refine Calls.mono H2.out ?_; rintro e w' ⟨rfl, hw⟩; have hw' := hw.symm; subst hw'; clear hw))
    go_ret
    exact ⟨rfl, rfl⟩
  · rw [if_neg h1]
    by_cases h2 : y < x
    · rw [if_pos h2]
      go_enter Try.func47, Try.ntmps47
      go_wp2_with (first
        | (go_at_call 51; refine Calls.mono H1.out ?_; rintro e w' ⟨rfl, hw⟩; have hw' := hw.symm; subst hw'; clear hw)
        | (go_at_call 51; refine Calls.mono H2.out ?_; rintro e w' ⟨rfl, hw⟩; have hw' := hw.symm; subst hw'; clear hw))
      go_ret
      exact ⟨rfl, rfl⟩
    · rw [if_neg h2]
      go_enter Try.func47, Try.ntmps47
      go_wp2_with (first
        | (go_at_call 51; refine Calls.mono H1.out ?_; rintro e w' ⟨rfl, hw⟩; have hw' := hw.symm; subst hw'; clear hw)
        | (go_at_call 51; refine Calls.mono H2.out ?_; rintro e w' ⟨rfl, hw⟩; have hw' := hw.symm; subst hw'; clear hw))
      go_ret
      exact ⟨rfl, rfl⟩

set_option maxHeartbeats 800000 in
theorem compareS_any (va vb : Value) (xs ys : List Int) (w : World) (hx : Is w va xs) (hy : Is w vb ys) :
    Calls Try.prog 43 #[va, vb] w fun e w' => e = .returned (.int .i64 (cmpL xs ys)) ∧ w' = w := by
  obtain ⟨ao, cap, rfl, h1, h2, h4⟩ := hx
  obtain ⟨bo, bcap, rfl, k1, k2, k4⟩ := hy
  have HX := hide h4
  have HY := hide k4
  have hl1 : xs.length ≤ 9223372036854775807 := by simp only [maxLen] at h2; omega
  have hl2 : ys.length ≤ 9223372036854775807 := by simp only [maxLen] at k2; omega
  clear h4 k4 h1 h2 k1 k2
  go_enter Try.func43, Try.ntmps43
  go_wp2
  go_loopw [11] (fun i wr => ∃ k : Nat, k ≤ xs.length ∧ k ≤ ys.length ∧ i = .int .i64 k ∧ Hid (cmpL (xs.drop k) (ys.drop k) = cmpL xs ys) ∧ wr = w) (fun i _ => xs.length - (intOf i).toNat)
  case atStart => exact ⟨0, Nat.zero_le _, Nat.zero_le _, rfl, rfl, rfl⟩
  case round =>
    obtain ⟨k, hk, hky, rfl, HM, hw⟩ := hrel
    have hw' := hw.symm
    subst hw'
    clear hw
    by_cases hlt : k < xs.length
    · obtain ⟨g, off, rfl, hc⟩ := HX.out (by omega)
      have c0 := hc k hlt
      have hltI : (k : Int) < (xs.length : Int) := by omega
      by_cases hly : k < ys.length
      · obtain ⟨g', off', rfl, hd⟩ := HY.out (by omega)
        have d0 := hd k hly
        have hlyI : ¬ (ys.length : Int) ≤ (k : Int) := by omega
        have HM2 : Hid ((if atI xs k < atI ys k then (-1 : Int) else if atI ys k < atI xs k then 1 else cmpL (xs.drop (k + 1)) (ys.drop (k + 1))) = cmpL xs ys) := by
          have := HM.out
          rw [atI_at hlt, atI_at hly] at this
          exact this
        have HC := hide (compare_any (atI xs k) (atI ys k) w)
        generalize atI xs k = x at *
        generalize atI ys k = y at *
        clear hc hd HM
        go_wp2_with fail
        refine Calls.mono HC.out ?_
        rintro e w2 ⟨rfl, hw⟩
        have hw' := hw.symm
        subst hw'
        clear hw
        unfold sgn
        by_cases e1 : x < y
        · rw [if_pos e1]
          have HM3 := HM2.out
          rw [if_pos e1] at HM3
          have HM4 := hide HM3
          clear HM3
          go_wp2_with fail
          go_ret
          exact ⟨by rw [← HM4.out]; rfl, rfl⟩
        · by_cases e2 : y < x
          · rw [if_neg e1, if_pos e2]
            have HM3 := HM2.out
            rw [if_neg e1, if_pos e2] at HM3
            have HM4 := hide HM3
            clear HM3
            go_wp2_with fail
            go_ret
            exact ⟨by rw [← HM4.out]; rfl, rfl⟩
          · rw [if_neg e1, if_neg e2]
            have HM3 := HM2.out
            rw [if_neg e1, if_neg e2] at HM3
            have HM4 := hide HM3
            clear HM3
            go_wp2_with fail
            go_roundw
            case rel => exact ⟨k + 1, by omega, by omega, by simp, HM4, trivial⟩
            case measure => simp [intOf]; omega
      · have hlyI : (ys.length : Int) ≤ (k : Int) := by omega
        have HM2 : Hid (cmpL xs ys = 1) := by
          show _ = _
          rw [← HM.out, atI_at hlt, drop_nil ys (by omega)]
          rfl
        clear hc HM
        go_wp2_with fail
        go_ret
        exact ⟨by rw [HM2.out]; rfl, rfl⟩
    · have hltI : ¬ (k : Int) < (xs.length : Int) := by omega
      by_cases hly : xs.length < ys.length
      · have hlyI : (xs.length : Int) < (ys.length : Int) := by omega
        have HM2 : Hid (cmpL xs ys = -1) := by
          show _ = _
          rw [← HM.out, drop_nil xs (by omega), atI_at (ns := ys) (by omega)]
          rfl
        clear HM
        go_wp2_with fail
        go_ret
        exact ⟨by rw [HM2.out]; rfl, rfl⟩
      · have hlyI : ¬ (xs.length : Int) < (ys.length : Int) := by omega
        have HM2 : Hid (cmpL xs ys = 0) := by
          show _ = _
          rw [← HM.out, drop_nil xs (by omega), drop_nil ys (by omega)]
          rfl
        clear HM
        go_wp2_with fail
        go_ret
        exact ⟨by rw [HM2.out]; rfl, rfl⟩

theorem below_drewN (w : World) (n : Nat) : Below w.heap.size w (w.drewN n) := ⟨rfl, rfl, rfl, Nat.le_refl _, fun _ _ => rfl⟩

set_option maxHeartbeats 800000 in
theorem equalS_any (va vb : Value) (xs ys : List Int) (w : World) (hx : Is w va xs) (hy : Is w vb ys) (hl : xs.length = ys.length) :
    Calls Try.prog 41 #[va, vb] w fun e w' => e = .returned (.bool (decide (xs = ys))) ∧ Below w.heap.size w w' := by
  obtain ⟨ao, cap, rfl, h1, h2, h4⟩ := hx
  obtain ⟨bo, bcap, rfl, k1, k2, k4⟩ := hy
  have HX := hide h4
  have HY := hide k4
  have hl1 : xs.length ≤ 9223372036854775807 := by simp only [maxLen] at h2; omega
  obtain ⟨N, hN⟩ : ∃ N, ys.length = N := ⟨_, rfl⟩
  rw [hN] at hl HY ⊢
  rw [hl] at HX hl1 ⊢
  have HlX := hide hl
  have HlY := hide hN
  clear h4 k4 h1 h2 k1 k2 hl hN
  go_enter Try.func41, Try.ntmps41
  go_wp2
  go_loopw [13] (fun i wr => ∃ k : Nat, k ≤ N ∧ i = .int .i64 k ∧ Hid (xs.take k = ys.take k) ∧ Hid (Below w.heap.size w wr)) (fun i _ => N - (intOf i).toNat)
  case atStart => exact ⟨0, Nat.zero_le _, rfl, rfl, Below.refl _ _⟩
  case round =>
    obtain ⟨k, hk, rfl, HM, HB⟩ := hrel
    by_cases hlt : k < N
    · obtain ⟨g, off, rfl, hc⟩ := HX.out (by omega)
      obtain ⟨g', off', rfl, hd⟩ := HY.out (by omega)
      have c0 := cell_below' (hc k hlt) HB.out
      have d0 := cell_below' (hd k hlt) HB.out
      have hltI : (k : Int) < (N : Int) := by omega
      have hx1 : xs.take (k + 1) = xs.take k ++ [atI xs k] := by
        have := HlX.out
        rw [List.take_succ_eq_append_getElem (by omega), atI, List.getD, List.getElem?_eq_getElem (by omega)]
        rfl
      have hy1 : ys.take (k + 1) = ys.take k ++ [atI ys k] := by
        have := HlY.out
        rw [List.take_succ_eq_append_getElem (by omega), atI, List.getD, List.getElem?_eq_getElem (by omega)]
        rfl
      have HE : Hid (atI xs k = atI ys k → xs.take (k + 1) = ys.take (k + 1)) := fun e => by rw [hx1, hy1, e, HM.out]
      have HNE : Hid (atI xs k ≠ atI ys k → decide (xs = ys) = false) := fun e => by
        rw [decide_eq_false]
        rintro rfl
        exact e rfl
      generalize atI xs k = x at *
      generalize atI ys k = y at *
      clear hc hd HM hx1 hy1
      by_cases e : x = y
      · have HE1 := hide (HE.out e)
        subst e
        have g1 : (x != x) = false := by simp
        go_wp2_with fail
        go_big_quiet (fail)
        have HBz := hide (HB.out.trans ((below_drewN wr nq).mono HB.out.size))
        go_wp2_with fail
        go_roundw
        case rel => exact ⟨k + 1, by omega, by simp, HE1, by assumption⟩
        case measure => simp [intOf]; omega
      · have HE1 := hide (HNE.out e)
        have g1 : (x != y) = true := by simpa using e
        go_wp2_with fail
        go_big_quiet (fail)
        have HBz := hide (HB.out.trans ((below_drewN wr nq).mono HB.out.size))
        go_wp2_with fail
        go_ret
        exact ⟨by rw [HE1.out]; rfl, HBz.out⟩
    · have hltI : ¬ (k : Int) < (N : Int) := by omega
      have HE1 : Hid (decide (xs = ys) = true) := by
        have := HM.out
        have e1 := HlX.out
        have e2 := HlY.out
        rw [List.take_of_length_le (by omega), List.take_of_length_le (by omega)] at this
        exact decide_eq_true this
      clear HM
      go_wp2_with fail
      go_ret
      exact ⟨by rw [HE1.out]; rfl, HB.out⟩
end Go.Proofs.Ytfjcadkihnecdaa
namespace Go.Proofs.Ytfjcadkihnecdaa.K
open Go.RowKit

theorem Try.info47 : (Try.prog.info? 47).map (fun i => (i.zero, i.size, i.bytes)) = some (some (.agg #[.int .i64 0, .int .i64 0, .int .i64 0, .int .i64 0]), 4, 32) := by kernel_rfl

set_option maxHeartbeats 1000000 in
theorem insert_end (v : Value) (n vb : Nat) (xs : List Value) (s d s2 d2 : Value) (w : World) (h : w.ownsRow 0 47 4 v n xs) (hn : n ≤ 1000000000) (hvb : w.heap[vb]? = some (.cells #[s, d, s2, d2] 47 (0, 0))) (hs : s.oneCell' = true) (hd : d.oneCell' = true) (hs2 : s2.oneCell' = true) (hd2 : d2.oneCell' = true) :
    Calls Try.prog 36 #[v, .int .i64 n, .slice (some ⟨vb, 0, none⟩) 1 1] w fun e w' => ∃ v', e = .returned v' ∧ w'.ownsRow 0 47 4 v' (n + 1) (xs ++ [s, d, s2, d2]) ∧ w.grownBy w' v.ownBlock ∧ (v'.ownBlock = v.ownBlock ∨ v'.ownBlock = some w.heap.size) := by
  obtain ⟨i, hi, hz0, hz1, hz2⟩ := info_parts Try.info47
  have hcell : ∀ j u, [s, d, s2, d2][j]? = some u → w.cell? ((⟨vb, 0, none⟩ : Addr).add j) = some u := by
    intro j u hj
    rw [Addr.add_lit, Nat.zero_add, cell_of_row w vb j _ 47 _ hvb]
    simpa using hj
  obtain ⟨v', w', hr, hO, hg, _, hat⟩ := run_append_own_at (P := Try.prog) w 0 65 65 47 i _ 4 32 Try.underlying65 hi hz0 hz1 hz2 rfl (by decide) v n xs h ⟨vb, 0, none⟩ 1 1 [s, d, s2, d2] rfl hcell (by simp [hs, hd, hs2, hd2]) (by simp only [maxLen]; omega) (by omega) (Nat.zero_le _)
  have HX : Hid (w'.ownsRow 0 47 4 v' (n + 1) (xs ++ [s, d, s2, d2]) ∧ w.grownBy w' v.ownBlock ∧ (v'.ownBlock = v.ownBlock ∨ v'.ownBlock = some w.heap.size)) := ⟨hO, hg, hat⟩
  clear hO hg hat hcell
  rcases own_shape h with ⟨rfl, rfl⟩ | ⟨g, cap, rfl, hc1, hc2, hc3⟩
  · have hr' : ∀ ty, (Builtin.append_ #[65, 65] ty #[.slice none 0 0, .slice (some ⟨vb, 0, none⟩) 1 1]).run Try.prog w = .ok v' w' := fun ty => by
      rw [append_types w 65 47 ty 65 65 47 47 i _ _ _ _ Try.underlying65 hi Try.underlying65 Try.underlying65]
      exact hr
    clear h hr hi hz0 hz1 hz2
    go_enter Try.func36, Try.ntmps36
    go_wp2_with (at_builtin; refine Lib.wpList_append_run _ rfl _ _ _ _ rfl _ _ rfl rfl _ _ (hr' _) ?_)
    go_ret
    exact ⟨_, rfl, HX.out⟩
  · have hr' : ∀ ty, (Builtin.append_ #[65, 65] ty #[.slice (some ⟨g, 0, none⟩) n cap, .slice (some ⟨vb, 0, none⟩) 1 1]).run Try.prog w = .ok v' w' := fun ty => by
      rw [append_types w 65 47 ty 65 65 47 47 i _ _ _ _ Try.underlying65 hi Try.underlying65 Try.underlying65]
      exact hr
    have hc2' : cap ≤ 9223372036854775807 := hc2
    clear h hr hi hz0 hz1 hz2 hc2
    go_enter Try.func36, Try.ntmps36
    go_wp2_with (at_builtin; refine Lib.wpList_append_run _ rfl _ _ _ _ rfl _ _ rfl rfl _ _ (hr' _) ?_)
    all_goals go_ret
    all_goals exact ⟨_, rfl, HX.out⟩
end Go.Proofs.Ytfjcadkihnecdaa.K

/- Programs, in plain mathematics: which words are a term, an atom, a literal, a clause, a program; of several errors the first. A reader in memory; the walks of done, next and take; rows of terms, literals and rules. The walks of constantOf, constant and term. Rows of terms and of literals; the walk of the list of terms. The walk of atom. -/
import Derived.Test.YtdmhajeaphnebaaPart03
import Derived.Test.YtdmhajeaphnebaaPart04
import Derived.Deep.RegionHeld
import Derived.Deep.CutRange
import Derived.StillTailTactics
namespace Go.Proofs.Ytdmhajeaphnebaa.Sy
open Lx (Wd tx scanL scanAt frontL frontAt kindN kindL sizeL nameN varN smallN digitN runP)
open Vl (Tm)

abbrev Lit := Int × ByteArray × List Tm
abbrev Rul := Lit × List Lit
/-- What is read of words: an error (true: a limit, false: the grammar), or a thing and the words behind it. -/
abbrev Re (α : Type) := Except Bool (α × List Wd)

/-- The value of digits. -/
def valStep (n : Nat) (c : UInt8) : Nat := n * 10 + (c.toNat - 48)
def valL (acc : Nat) (x : List UInt8) : Nat := x.foldl valStep acc
theorem valL_nil (acc : Nat) : valL acc [] = acc := List.foldl_nil
theorem valL_cons (acc : Nat) (c : UInt8) (r : List UInt8) : valL acc (c :: r) = valL (acc * 10 + (c.toNat - 48)) r := List.foldl_cons ..
/-- The value of a number's word. -/
def numOf (x : List UInt8) : Int := if (x.getD 0 0).toNat = 45 then -((valL 0 x.tail : Nat) : Int) else ((valL 0 x : Nat) : Int)

def nextW : List Wd → Wd
  | [] => (0, [], 0)
  | x :: _ => x
def takeB (s : List UInt8) (ws : List Wd) : Bool := decide ((nextW ws).2.1 = s)
def takeR (s : List UInt8) (ws : List Wd) : List Wd := if takeB s ws = true then ws.tail else ws

/-- The constant that a word says. -/
def constW (x : Wd) : Option Tm :=
  if x.1 = 1 then some (2, tx x.2.1, 0)
  else if x.1 = 3 then (if -2147483648 ≤ numOf x.2.1 ∧ numOf x.2.1 ≤ 2147483648 then some (3, ⟨#[]⟩, numOf x.2.1) else none) else none
def termW (x : Wd) : Option Tm := if x.1 = 2 then some (1, tx x.2.1, 0) else constW x
def oneL (f : Wd → Option Tm) (ws : List Wd) : Re Tm :=
  match f (nextW ws) with
  | none => .error false
  | some t => .ok (t, ws.tail)
def constL : List Wd → Re Tm := oneL constW
def termL : List Wd → Re Tm := oneL termW

/-- One item or several with a comma between, so many and one more at most. -/
def listL {α : Type} (item : List Wd → Re α) : Nat → List Wd → Re (List α)
  | 0, ws => match item ws with
    | .error e => .error e
    | .ok _ => .error true
  | n + 1, ws => match item ws with
    | .error e => .error e
    | .ok (x, t) => if takeB [44] t = true then (match listL item n t.tail with
        | .error e => .error e
        | .ok (l, r) => .ok (x :: l, r)) else .ok ([x], t)

def atomL (f : Wd → Option Tm) (ws : List Wd) : Re Lit :=
  if (nextW ws).1 = 1 then
    (if takeB [40] ws.tail = true then (match listL (oneL f) 4 ws.tail.tail with
      | .error e => .error e
      | .ok (l, r) => if takeB [41] r = true then .ok ((1, tx (nextW ws).2.1, l), r.tail) else .error false)
    else .ok ((1, tx (nextW ws).2.1, []), ws.tail))
  else .error false

/-- The kind of a comparison's sign; 0: it is none. -/
def kindOf (x : List UInt8) : Nat := if x = [61] then 3 else if x = [33, 61] then 4 else if x = [60] then 5 else if x = [60, 61] then 6 else 0

def cmpL (ws : List Wd) : Re Lit :=
  match termL ws with
  | .error e => .error e
  | .ok (a, t) => if kindOf (nextW t).2.1 = 0 then .error false else (match termL t.tail with
    | .error e => .error e
    | .ok (b, r) => .ok (((kindOf (nextW t).2.1 : Nat), ⟨#[]⟩, [a, b]), r))

def litL (ws : List Wd) : Re Lit :=
  if takeB [33] ws = true then (match atomL termW ws.tail with
    | .error e => .error e
    | .ok (l, r) => .ok ((2, l.2), r))
  else if (nextW ws).1 = 1 ∧ kindOf (nextW ws.tail).2.1 = 0 then atomL termW ws
  else cmpL ws

def clauseL (ws : List Wd) : Re Rul :=
  match atomL termW ws with
  | .error e => .error e
  | .ok (h, t) => if takeB [58, 45] t = true then (match listL litL 6 t.tail with
      | .error e => .error e
      | .ok (b, r) => if takeB [46] r = true then .ok ((h, b), r.tail) else .error false)
    else if takeB [46] t = true then .ok ((h, []), t.tail) else .error false

/-- Clauses, so many and one more at most. -/
def progL : Nat → List Wd → Except Bool (List Rul)
  | _, [] => .ok []
  | 0, x :: ws => match clauseL (x :: ws) with
    | .error e => .error e
    | .ok _ => .error true
  | n + 1, x :: ws => match clauseL (x :: ws) with
    | .error e => .error e
    | .ok (c, r) => (match progL n r with
      | .error e => .error e
      | .ok l => .ok (c :: l))

/-- An atom alone, with or without a stop behind. -/
def onlyL (f : Wd → Option Tm) (ws : List Wd) : Except Bool Lit :=
  match atomL f ws with
  | .error e => .error e
  | .ok (l, t) => if (takeR [46] t) = [] then .ok l else .error false

/-- The words of a text, a word that fits nowhere in the place of the first fault. -/
def wordsL (S : List UInt8) : List Wd := match scanAt S 0 with
  | some L => L
  | none => frontAt S 0 ++ [(0, [], 0)]

/-- What a word is, by its bytes. -/
structure OkW (x : Wd) : Prop where
  ne : x.2.1 ≠ []
  kind : x.1 = kindL x.2.1
  len : x.2.1.length ≤ 16
  name : x.1 = 1 → ∀ c ∈ x.2.1, nameN c.toNat = true
  num : x.1 = 3 → (∀ c ∈ x.2.1, digitN c.toNat = true) ∨ ∃ r, x.2.1 = 45 :: r ∧ r ≠ [] ∧ ∀ c ∈ r, digitN c.toNat = true
/-- A word, or the mark of a fault. -/
def OkF (x : Wd) : Prop := OkW x ∨ x = (0, [], 0)

theorem runP_mem (p : Nat → Bool) (L : List UInt8) : ∀ c ∈ L.take (runP p L), p c.toNat = true := by
  induction L with
  | nil => simp
  | cons d t ih =>
    by_cases h : p d.toNat = true
    · have e : runP p (d :: t) = runP p t + 1 := by simp [runP, h]
      rw [e, List.take_succ_cons]
      intro c hc
      rcases List.mem_cons.1 hc with rfl | hc
      · exact h
      · exact ih c hc
    · have e : runP p (d :: t) = 0 := by simp [runP, h]
      rw [e]
      simp

theorem num_form (c : UInt8) (t : List UInt8) (h0 : Lx.numL (c :: t) ≠ 0) :
    (∀ d ∈ (c :: t).take (Lx.numL (c :: t)), digitN d.toNat = true) ∨ ∃ r, (c :: t).take (Lx.numL (c :: t)) = 45 :: r ∧ r ≠ [] ∧ ∀ d ∈ r, digitN d.toNat = true := by
  by_cases h1 : c.toNat = 48
  · left
    have e : Lx.numL (c :: t) = 1 := by simp [Lx.numL, h1]
    rw [e]
    intro d hd
    simp at hd
    rw [hd, h1]; rfl
  · by_cases h2 : c.toNat = 45
    · match t with
      | [] => simp [Lx.numL, h2] at h0
      | d :: r =>
        by_cases h3 : d.toNat = 48
        · simp [Lx.numL, h2, h3] at h0
        · by_cases h4 : digitN d.toNat = true
          · right
            have e : Lx.numL (c :: d :: r) = runP digitN r + 2 := by simp [Lx.numL, h2, h3, h4]
            refine ⟨d :: r.take (runP digitN r), ?_, by simp, ?_⟩
            · rw [e]
              have hc : c = 45 := by
                have := UInt8.toNat_inj.1 (show c.toNat = (45 : UInt8).toNat by rw [h2]; rfl)
                exact this
              simp [hc]
            · intro y hy
              rcases List.mem_cons.1 hy with rfl | hy
              · exact h4
              · exact runP_mem _ _ y hy
          · simp [Lx.numL, h2, h3, h4] at h0
    · left
      have e : Lx.numL (c :: t) = runP digitN (c :: t) := by simp only [Lx.numL, if_neg h1, if_neg h2]
      rw [e]
      exact runP_mem _ _

theorem okW_first (c : UInt8) (t : List UInt8) (a : Nat) (hs : ¬ (sizeL (c :: t) = 0 ∨ 16 < sizeL (c :: t))) : OkW (kindL (c :: t), (c :: t).take (sizeL (c :: t)), a) := by
  have h0 : sizeL (c :: t) ≠ 0 := fun h => hs (Or.inl h)
  have hk : kindL ((c :: t).take (sizeL (c :: t))) = kindL (c :: t) := by
    obtain ⟨m, hm⟩ : ∃ m, sizeL (c :: t) = m + 1 := ⟨sizeL (c :: t) - 1, by omega⟩
    rw [hm]
    simp [kindL]
  refine ⟨?_, hk.symm, ?_, ?_, ?_⟩
  · intro h
    have := congrArg List.length h
    rw [List.length_take] at this
    simp at this
    omega
  · rw [List.length_take]
    omega
  · intro h1
    have h1' : kindL (c :: t) = 1 := h1
    have e : sizeL (c :: t) = runP nameN (c :: t) := by simp [sizeL, h1']
    show ∀ d ∈ (c :: t).take (sizeL (c :: t)), _
    rw [e]
    exact runP_mem _ _
  · intro h3
    have h3' : kindL (c :: t) = 3 := h3
    have e : sizeL (c :: t) = Lx.numL (c :: t) := by simp [sizeL, h3']
    have := num_form c t (by rw [← e]; exact h0)
    rw [← e] at this
    exact this

theorem front_ok (n : Nat) : ∀ (L : List UInt8) (a : Nat), L.length ≤ n → (∀ x ∈ frontL L a, OkW x) ∧ (frontL L a).length ≤ L.length := by
  induction n with
  | zero =>
    intro L a hl
    obtain rfl : L = [] := by cases L; rfl; simp at hl
    rw [Lx.frontL_nil]
    simp
  | succ n ih =>
    intro L a hl
    match L with
    | [] => rw [Lx.frontL_nil]; simp
    | c :: t =>
      simp only [List.length_cons] at hl
      rw [Lx.frontL_cons]
      by_cases hb : Lx.blankN c.toNat = true
      · rw [if_pos hb]
        have := ih t (a + 1) (by omega)
        exact ⟨this.1, by simp only [List.length_cons]; omega⟩
      · rw [if_neg hb]
        by_cases hn : c.toNat = 37
        · rw [if_pos hn]
          have := ih (t.drop (Lx.lineL t)) (a + 1 + Lx.lineL t) (by rw [List.length_drop]; omega)
          rw [List.length_drop] at this
          exact ⟨this.1, by simp only [List.length_cons]; omega⟩
        · rw [if_neg hn]
          by_cases hs : sizeL (c :: t) = 0 ∨ 16 < sizeL (c :: t)
          · rw [if_pos hs]; simp
          · rw [if_neg hs]
            have := ih (t.drop (sizeL (c :: t) - 1)) (a + sizeL (c :: t)) (by rw [List.length_drop]; omega)
            rw [List.length_drop] at this
            refine ⟨fun x hx => ?_, by simp only [List.length_cons]; omega⟩
            rcases List.mem_cons.1 hx with rfl | hx
            · exact okW_first c t a hs
            · exact this.1 x hx

theorem words_ok (S : List UInt8) : (∀ x ∈ wordsL S, OkF x) ∧ (wordsL S).length ≤ S.length + 1 := by
  have h := front_ok _ (S.drop 0) 0 (Nat.le_refl _)
  have hl : (frontAt S 0).length ≤ S.length := by simpa [frontAt] using h.2
  have h1 : ∀ x ∈ frontAt S 0, OkW x := h.1
  unfold wordsL
  cases hs : scanAt S 0 with
  | some L =>
    have e := Lx.frontAt_of_scan hs
    simp only []
    rw [← e]
    exact ⟨fun x hx => Or.inl (h1 x hx), by omega⟩
  | none =>
    simp only [List.length_append, List.length_cons, List.length_nil]
    refine ⟨fun x hx => ?_, by omega⟩
    rcases List.mem_append.1 hx with hx | hx
    · exact Or.inl (h1 x hx)
    · right; simpa using hx

theorem next_okF {ws : List Wd} (h : ∀ x ∈ ws, OkF x) : OkF (nextW ws) := by
  cases ws with
  | nil => exact Or.inr rfl
  | cons x t => exact h x (by simp)
theorem tail_okF {ws : List Wd} (h : ∀ x ∈ ws, OkF x) : ∀ x ∈ ws.tail, OkF x := fun x hx => h x (List.mem_of_mem_tail hx)

/-- A name's word may be a constant. -/
theorem ok_name {x : Wd} (h : OkW x) (h1 : x.1 = 1) : Vl.wordS (tx x.2.1) = true := by
  rw [Vl.wordS_iff]
  have hne := h.ne
  have hk := h.kind
  have hlen := h.len
  have hname := h.name h1
  obtain ⟨k, s, p⟩ := x
  simp only at h1 hk hlen hname hne
  obtain ⟨c, t, rfl⟩ := List.exists_cons_of_ne_nil hne
  have hn1 : ∀ n, Vl.restN n = nameN n := fun n => rfl
  refine ⟨by rw [Lx.tx_size]; simp, by rw [Lx.tx_size]; exact hlen, ?_, ?_⟩
  · have hsm : kindN c.toNat = 1 := by rw [← h1, hk]; simp [kindL]
    have : smallN c.toNat = true := by
      cases hx : smallN c.toNat with
      | true => rfl
      | false =>
        exfalso
        simp only [kindN, hx] at hsm
        split at hsm
        · rename_i h; cases h
        · split at hsm
          · omega
          · split at hsm <;> omega
    exact this
  · intro j hj hl
    rw [Lx.tx_size] at hl
    rw [hn1]
    have : Vl.bt (tx (c :: t)) j = ((c :: t)[j]).toNat := by
      show ((c :: t).getD j 0).toNat = _
      rw [List.getD, List.getElem?_eq_getElem hl]
      rfl
    rw [this]
    exact hname _ (List.getElem_mem _)

theorem digit_range {n : Nat} (h : digitN n = true) : 48 ≤ n ∧ n ≤ 57 := by
  simpa [digitN] using h

theorem parse_digits (r : List UInt8) : ∀ acc k : Nat, acc < 10 ^ k → k + r.length ≤ 18 → (∀ c ∈ r, digitN c.toNat = true) → Lib.parseUintM (2 ^ 64 - 1) acc r = .ok (valL acc r) ∧ valL acc r < 10 ^ (k + r.length) := by
  induction r with
  | nil => intro acc k h _ _; exact ⟨by rw [Lib.parseUintM, valL_nil], by rw [valL_nil]; simpa using h⟩
  | cons c t ih =>
    intro acc k h hk hd
    obtain ⟨d1, d2⟩ := digit_range (hd c (by simp))
    have hpow : 10 ^ (k + 1) = 10 ^ k * 10 := Nat.pow_succ _ _
    have hlt : acc * 10 + (c.toNat - 48) < 10 ^ (k + 1) := by omega
    have hk1 : k + 1 ≤ 18 := by simp at hk; omega
    have hbig : 10 ^ (k + 1) ≤ 10 ^ 18 := Nat.pow_le_pow_right (by decide) hk1
    have hv : (10 : Nat) ^ 18 = 1000000000000000000 := by decide
    have h64 : (2 : Nat) ^ 64 - 1 = 18446744073709551615 := by decide
    have := ih (acc * 10 + (c.toNat - 48)) (k + 1) hlt (by simp at hk ⊢; omega) (fun y hy => hd y (by simp [hy]))
    refine ⟨?_, ?_⟩
    · rw [Lib.parseUintM, if_pos ⟨d1, d2⟩, if_neg (by omega), if_neg (by omega)]
      exact this.1
    · rw [valL_cons, List.length_cons, show k + (t.length + 1) = k + 1 + t.length by omega]
      exact this.2

theorem ok_num {x : Wd} (h : OkW x) (h3 : x.1 = 3) : Lib.parseIntB 64 x.2.1 = .ok (numOf x.2.1) := by
  have hlen := h.len
  have hne := h.ne
  have hbig : (10 : Nat) ^ 16 = 10000000000000000 := by decide
  have h63 : (2 : Nat) ^ (64 - 1) = 9223372036854775808 := by decide
  rcases h.num h3 with hd | ⟨r, hr, hrn, hd⟩
  · obtain ⟨c, t, hx⟩ := List.exists_cons_of_ne_nil hne
    have hc := digit_range (hd c (by rw [hx]; simp))
    have hp := parse_digits x.2.1 0 0 (by decide) (by omega) hd
    have hle : (10 : Nat) ^ (0 + x.2.1.length) ≤ 10 ^ 16 := Nat.pow_le_pow_right (by decide) (by omega)
    rw [hx] at hp hle ⊢
    have e1 : numOf (c :: t) = ((valL 0 (c :: t) : Nat) : Int) := by
      unfold numOf
      rw [if_neg (by simp; omega)]
    rw [e1]
    unfold Lib.parseIntB
    simp only []
    rw [if_neg (by omega), Lib.parseUintB, if_neg (by simp), hp.1]
    simp only []
    rw [if_neg (by omega), if_neg (by omega), if_neg (by omega)]
  · have hp := parse_digits r 0 0 (by decide) (by rw [hr] at hlen; simp at hlen; omega) hd
    have hle : (10 : Nat) ^ (0 + r.length) ≤ 10 ^ 16 := Nat.pow_le_pow_right (by decide) (by rw [hr] at hlen; simp at hlen; omega)
    rw [hr]
    have e1 : numOf (45 :: r) = -((valL 0 r : Nat) : Int) := by
      unfold numOf
      rw [if_pos (by rfl)]
      rfl
    rw [e1]
    unfold Lib.parseIntB
    simp only []
    rw [if_pos (by right; rfl), Lib.parseUintB, if_neg hrn, hp.1]
    simp only []
    have h45 : (45 : UInt8).toNat = 45 := rfl
    rw [if_neg (by rw [h45]; omega), if_neg (by omega), if_pos h45]

end Go.Proofs.Ytdmhajeaphnebaa.Sy
namespace Go.Proofs.Ytdmhajeaphnebaa.Sy
open Go.RowKit
open Lx (Wd tx cellsW)
open Vl (Tm Fr)

theorem hide {p : Prop} (h : p) : Hid p := h
/-- A word as a value. -/
def wv (x : Wd) : Value := .agg #[.int .i64 (x.1 : Int), .string (tx x.2.1), .int .i64 (x.2.2 : Int)]
theorem drop_next (L : List Wd) (a : Nat) (h : a < L.length) : nextW (L.drop a) = L[a] := by
  rw [List.drop_eq_getElem_cons h]; rfl
theorem drop_end (L : List Wd) (a : Nat) (h : L.length ≤ a) : L.drop a = [] := List.drop_eq_nil_of_le h
theorem drop_tail (L : List Wd) (a : Nat) : (L.drop a).tail = L.drop (a + 1) := by simp

theorem below_drewN (w : World) (n : Nat) : Below w.heap.size w (w.drewN n) := ⟨rfl, rfl, rfl, Nat.le_refl _, fun _ _ => rfl⟩

/-- A block of cells in memory. -/
def Bx (w : World) (b : Nat) (T : TypeId) (cs : Array Value) : Prop := w.heap[b]? = some (.cells cs T (0, 0))
theorem Bx.lt {w : World} {b : Nat} {T : TypeId} {cs : Array Value} (h : Bx w b T cs) : b < w.heap.size := (Array.getElem?_eq_some_iff.1 h).1
theorem Bx.c {w : World} {b : Nat} {T : TypeId} {cs : Array Value} (h : Bx w b T cs) (i : Nat) : w.cell? ⟨b, i, none⟩ = cs[i]? := cell_of_row w b i _ _ _ h
theorem Bx.f {w : World} {b : Nat} {T : TypeId} {cs : Array Value} (h : Bx w b T cs) (i : Nat) : w.frozen? ⟨b, i, none⟩ = false := frozen_of_row w b i _ _ h
theorem Bx.fr {w w' : World} {b : Nat} {T : TypeId} {cs : Array Value} (h : Bx w b T cs) {F : Nat → Prop} (hf : Fr F w w') (hb : ¬ F b) : Bx w' b T cs := by
  unfold Bx
  rw [hf.block b h.lt hb]
  exact h
theorem Bx.below {w w' : World} {b : Nat} {T : TypeId} {cs : Array Value} (h : Bx w b T cs) (hf : Below w.heap.size w w') : Bx w' b T cs := h.fr (F := fun _ => False) (Fr.of_below hf) id
theorem Bx.new (w : World) (cs : Array Value) (T : TypeId) : Bx (w.alloc (.cells cs T)) w.heap.size T cs := heap_alloc_new _ _
theorem Bx.set {w : World} {b : Nat} {T : TypeId} {cs : Array Value} (h : Bx w b T cs) (i : Nat) (v : Value) : Bx (w.setCell ⟨b, i, none⟩ v) b T (cs.setIfInBounds i v) := Vl.heap_set h v
/-- A result that lies in a cell, an error beside it. -/
theorem ret_cell {fn : Func} {p u : Tmp} {ty : TypeId} (h : fn.results = #[.cell p ty, .tmp u]) (tmps : Array Value) (w : World) (g : Nat) (t : TypeId) (cs : Array Value) {d}
    (hp : tmps.getD p undef = .pointer (some ⟨g, 0, none⟩)) (hg : Bx w g t cs)
    (hu : Try.prog.underlying ty = some (.struct d)) (hi : (Try.prog.info? ty).map (·.size) = some cs.size) :
    (results fn tmps).run Try.prog w = .ok (.tuple #[.agg cs, tmps.getD u undef]) w := by
  rw [results_cell_tmp h, hp]
  have hl := run_loadVar_row (P := Try.prog) w g t ty cs (0, 0) _ hg hu rfl hi
  have ha : (asAddr (.pointer (some ⟨g, 0, none⟩))).run Try.prog w = .ok ⟨g, 0, none⟩ w := rfl
  rw [ha]
  simp only [Result.andThen, hl]

theorem beq_bytes (x s : List UInt8) : ((tx x).toList == (tx s).toList) = decide (x = s) := by
  rw [Bool.eq_iff_iff]
  simp [Lib.toList_data, tx]

end Go.Proofs.Ytdmhajeaphnebaa.Sy
namespace Go.Proofs.Ytdmhajeaphnebaa.Sy
open Go.RowKit
open Lx (Wd tx cellsW)
open Vl (Tm Fr)

/-- What a word says as a constant, before it is asked whether it may be one. -/
def rawW (x : Wd) : Tm := if x.1 = 1 then (2, tx x.2.1, 0) else if x.1 = 3 then (3, ⟨#[]⟩, numOf x.2.1) else (0, ⟨#[]⟩, 0)
def mayM (t : Tm) : Bool := Vl.mayT t.1 t.2.1 t.2.2

theorem raw_const {x : Wd} (h : OkF x) : constW x = if mayM (rawW x) = true then some (rawW x) else none := by
  rcases h with h | rfl
  · by_cases h1 : x.1 = 1
    · have hw := ok_name h h1
      have e : mayM (rawW x) = true := by simp [mayM, rawW, h1, Vl.mayT, hw]
      rw [if_pos e]
      simp [constW, rawW, h1]
    · by_cases h3 : x.1 = 3
      · by_cases hr : -2147483648 ≤ numOf x.2.1 ∧ numOf x.2.1 ≤ 2147483648
        · have e : mayM (rawW x) = true := by simp [mayM, rawW, h3, Vl.mayT, hr, Lib.toList_data]
          rw [if_pos e]
          simp [constW, rawW, h3, hr]
        · have e : ¬ mayM (rawW x) = true := by
            simp [mayM, rawW, h3, Vl.mayT, Lib.toList_data]
            omega
          rw [if_neg e]
          simp [constW, h3, hr]
      · have e : ¬ mayM (rawW x) = true := by simp [mayM, rawW, h1, h3, Vl.mayT]
        rw [if_neg e]
        simp [constW, h1, h3]
  · have e : ¬ mayM (rawW (0, [], 0)) = true := by simp [mayM, rawW, Vl.mayT]
    rw [if_neg e]
    simp [constW]

theorem Bx.three {w : World} {b : Nat} {T : TypeId} {x y z : Value} (h : Bx w b T #[x, y, z]) : (w.cell? ⟨b, 0, none⟩ = some x ∧ w.cell? ⟨b, 1, none⟩ = some y ∧ w.cell? ⟨b, 2, none⟩ = some z) ∧ w.frozen? ⟨b, 0, none⟩ = false ∧ w.frozen? ⟨b, 1, none⟩ = false ∧ w.frozen? ⟨b, 2, none⟩ = false :=
  ⟨⟨h.c 0, h.c 1, h.c 2⟩, h.f 0, h.f 1, h.f 2⟩
def tvz : Value := .agg #[.int .i64 0, .string ⟨#[]⟩, .int .i64 0]
theorem sz53 : (Try.prog.info? 88).map (·.size) = some 3 := by kernel_rfl
theorem sz33 : (Try.prog.info? 57).map (·.size) = some 3 := by kernel_rfl
def isT (_ : World) (t : Tm) (y : Value) : Prop := y = Vl.tv t

theorem lt_of_next {L : List Wd} {a k : Nat} (hk : k ≠ 0) (h : (nextW (L.drop a)).1 = k) : a < L.length := by
  by_cases hl : a < L.length
  · exact hl
  · rw [drop_end L a (by omega)] at h
    exact absurd h.symm hk
theorem lt_of_may {L : List Wd} {a : Nat} (h : mayM (rawW (nextW (L.drop a))) = true) : a < L.length := by
  by_cases hl : a < L.length
  · exact hl
  · rw [drop_end L a (by omega)] at h
    simp [mayM, rawW, nextW, Vl.mayT] at h

end Go.Proofs.Ytdmhajeaphnebaa.Sy
namespace Go.Proofs.Ytdmhajeaphnebaa.Sy
open Go.RowKit
open Lx (Wd tx cellsW wpList_append_run)
open Vl (Tm Fr)

/-- One more element at the end of a row. -/
theorem push_row (t e size bytes : Nat) (z : Value) (ht : Try.prog.underlying t = some (.slice e)) (hi : (Try.prog.info? e).map (fun i => (i.zero, i.size, i.bytes)) = some (some z, size, bytes)) (hzs : z.cells.size = size) (hs0 : 0 < size) (hby : bytes ≤ 1000)
    {W : World} {base n : Nat} {v : Value} {xs : List Value} (h : W.ownsRow base e size v n xs) (cs : List Value) (hc : cs.length = size) (h1 : ∀ u ∈ cs, u.oneCell' = true) (hl : n ≤ 1000000) (hbase : base ≤ W.heap.size) :
    ∃ g cap w3, (∀ ty, (Builtin.append_ #[t, t] ty #[v, .slice (some ⟨W.heap.size, 0, none⟩) 1 1]).run Try.prog (W.alloc (.cells cs.toArray e)) = .ok (.slice (some ⟨g, 0, none⟩) (n + 1) cap) w3) ∧
      Hid (w3.ownsRow base e size (.slice (some ⟨g, 0, none⟩) (n + 1) cap) (n + 1) (xs ++ cs)) ∧ Hid (Fr (fun k => v.ownBlock = some k) W w3) := by
  obtain ⟨i, hi, hz, hsize, hbyt⟩ := info_parts hi
  have ha : (W.alloc (.cells cs.toArray e)).ownsRow base e size v n xs := h.alloc _
  have H := fun ty => run_append_own_at (P := Try.prog) (W.alloc (.cells cs.toArray e)) base t ty e i z size bytes ht hi hz hsize hbyt hzs hs0 v n xs ha ⟨W.heap.size, 0, none⟩ 1 1 cs (by omega) (fun j u hj => by
    rw [Addr.add_lit, Nat.zero_add, cell_of_row _ _ j _ _ _ (heap_alloc_new _ _)]
    simpa using hj) h1 (by simp only [maxLen]; omega) (by
      have : (n + 1) * bytes ≤ 1000001 * 1000 := Nat.mul_le_mul (by omega) hby
      omega) (by simp; omega)
  obtain ⟨v', w', hr, g1, g2, _, g4⟩ := H 0
  have hF : Fr (fun k => v.ownBlock = some k) W w' := ((Fr.refl (fun k => v.ownBlock = some k) W).alloc (.cells cs.toArray e)).trans (Vl.Fr.of_grown (F := fun k => v.ownBlock = some k) g2 (fun k hk => hk)) (fun _ _ e => e)
  rcases Lx.own_shape g1 with ⟨_, h0⟩ | ⟨g', cap, rfl, _⟩
  · omega
  · exact ⟨g', cap, w', fun ty => hr, g1, hF⟩

theorem Try.info88 : (Try.prog.info? 88).map (fun i => (i.zero, i.size, i.bytes)) = some (some (.agg #[.int .i64 0, .string ⟨#[]⟩, .int .i64 0]), 3, 32) := by kernel_rfl
theorem Try.info57 : (Try.prog.info? 57).map (fun i => (i.zero, i.size, i.bytes)) = some (some (.agg #[.int .i64 0, .string ⟨#[]⟩, .slice none 0 0]), 3, 48) := by kernel_rfl
theorem Try.info60 : (Try.prog.info? 60).map (fun i => (i.zero, i.size, i.bytes)) = some (some (.agg #[.int .i64 0, .string ⟨#[]⟩, .slice none 0 0, .slice none 0 0]), 4, 72) := by kernel_rfl

/-- A row of terms. -/
def isTs (w : World) (ts : List Tm) (y : Value) : Prop := w.ownsRow 0 88 3 y ts.length (Vl.cellsT ts)

/-- What is read so far, and what is still to be read. -/
def joinR {α : Type} (acc : List α) : Re (List α) → Re (List α)
  | .error e => .error e
  | .ok (l, r) => .ok (acc ++ l, r)
theorem joinR_nil {α : Type} (R : Re (List α)) : joinR [] R = R := by
  cases R with
  | error e => rfl
  | ok p => rfl

theorem listL_err {α : Type} {item : List Wd → Re α} {n : Nat} {ws : List Wd} {e : Bool} (h : item ws = .error e) : listL item n ws = .error e := by
  cases n <;> simp [listL, h]
theorem listL_zero {α : Type} {item : List Wd → Re α} {ws : List Wd} {p : α × List Wd} (h : item ws = .ok p) : listL item 0 ws = .error true := by
  simp [listL, h]
theorem listL_last {α : Type} {item : List Wd → Re α} {n : Nat} {ws : List Wd} {x : α} {t : List Wd} (h : item ws = .ok (x, t)) (ht : takeB [44] t = false) : listL item (n + 1) ws = .ok ([x], t) := by
  simp [listL, h, ht]
theorem listL_more {α : Type} {item : List Wd → Re α} {n : Nat} {ws : List Wd} {x : α} {t : List Wd} (h : item ws = .ok (x, t)) (ht : takeB [44] t = true) : listL item (n + 1) ws = joinR [x] (listL item n (takeR [44] t)) := by
  simp only [listL, h, ht, if_true, takeR]
  cases listL item n t.tail with
  | error e => rfl
  | ok p => rfl
theorem joinR_joinR {α : Type} (a b : List α) (R : Re (List α)) : joinR a (joinR b R) = joinR (a ++ b) R := by
  cases R with
  | error e => rfl
  | ok p => simp [joinR]

def lenOf : Value → Nat
  | .slice _ n _ => n
  | _ => 0
theorem own_len {w : World} {b e s n : Nat} {v : Value} {xs : List Value} (h : w.ownsRow b e s v n xs) : lenOf v = n ∧ ∃ ao cap, v = .slice ao n cap := by
  rcases Lx.own_shape h with ⟨rfl, rfl⟩ | ⟨g, cap, rfl, _⟩
  · exact ⟨rfl, _, _, rfl⟩
  · exact ⟨rfl, _, _, rfl⟩

end Go.Proofs.Ytdmhajeaphnebaa.Sy
namespace Go.Proofs.Ytdmhajeaphnebaa.Sy
open Go.RowKit
open Lx (Wd tx cellsW wpList_append_run)
open Vl (Tm Fr)

/-- A literal as a value. -/
def isLit (w : World) (l : Lit) (y : Value) : Prop := ∃ va, y = .agg #[.int .i64 l.1, .string l.2.1, va] ∧ isTs w l.2.2 va
def litz : Value := .agg #[.int .i64 0, .string ⟨#[]⟩, .slice none 0 0]
theorem isTs_nil (w : World) : isTs w [] (.slice none 0 0) := ⟨by simp [Vl.cellsT], .inl ⟨rfl, rfl⟩⟩
theorem fr3 {w W : World} {r : Nat} (h : Fr (fun k => k = r) w W) (b : Nat) (hb : w.heap.size ≤ b) (x y z : Value) : Fr (fun k => k = r) w (((W.setCell ⟨b, 0, none⟩ x).setCell ⟨b, 1, none⟩ y).setCell ⟨b, 2, none⟩ z) :=
  (((h.setCell (p := ⟨b, 0, none⟩) (fun h => absurd h (by show ¬ b < _; omega)) x).setCell (p := ⟨b, 1, none⟩) (fun h => absurd h (by show ¬ b < _; omega)) y).setCell (p := ⟨b, 2, none⟩) (fun h => absurd h (by show ¬ b < _; omega)) z)

/-- A row of another type is not touched by a store. -/
theorem isTs_put {W : World} {ts : List Tm} {y : Value} (h : isTs W ts y) {b : Nat} {T : TypeId} {cs : Array Value} (hb : Bx W b T cs) (hT : T ≠ 88) (i : Nat) (x : Value) : isTs (W.setCell ⟨b, i, none⟩ x) ts y := by
  refine Vl.own_kept h (Vl.Fr.one W b i x) ?_
  intro k hk e
  subst e
  rcases h.2 with ⟨rfl, _⟩ | ⟨g, cap, cur, rfl, _, hg, _⟩
  · simp [Value.ownBlock] at hk
  · simp [Value.ownBlock] at hk
    subst hk
    have := hb.symm.trans hg
    simp only [Option.some.injEq, Obj.cells.injEq] at this
    exact hT this.2.1
theorem isTs_put3 {W : World} {ts : List Tm} {y : Value} (h : isTs W ts y) {b : Nat} {T : TypeId} {cs : Array Value} (hb : Bx W b T cs) (hT : T ≠ 88) (x0 x1 x2 : Value) : isTs (((W.setCell ⟨b, 0, none⟩ x0).setCell ⟨b, 1, none⟩ x1).setCell ⟨b, 2, none⟩ x2) ts y :=
  isTs_put (isTs_put (isTs_put h hb hT 0 x0) (hb.set 0 x0) hT 1 x1) ((hb.set 0 x0).set 1 x1) hT 2 x2

end Go.Proofs.Ytdmhajeaphnebaa.Sy

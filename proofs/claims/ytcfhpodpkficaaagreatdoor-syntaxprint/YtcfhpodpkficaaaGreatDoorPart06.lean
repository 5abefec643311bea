/- The walk of Fact. Programs, in plain mathematics: which words are a term, an atom, a literal, a clause, a program; of several errors the first. A reader in memory; the walks of done, next and take; rows of terms, literals and rules. The walks of constantOf, constant and term. -/
import Derived.Test.YtcfhpodpkficaaaGreatDoorPart05
import Derived.Test.YtcfhpodpkficaaaGreatDoorPart03
import Derived.Deep.RegionHeld
import Derived.Deep.CutRange
import Derived.StillTailTactics
namespace Go.Proofs.YtcfhpodpkficaaaGreatDoor.Vl
open Go.RowKit

theorem Tryz.info9 : (Tryz.prog.info? 9).map (fun i => (i.zero, i.size, i.bytes)) = some (some (.string ⟨#[]⟩), 1, 16) := by kernel_rfl

/-- The row of texts, so many of them made. -/
def rowL (L : List Tm) (k : Nat) : List Value := (L.take k).map (fun t => .string (prt t)) ++ List.replicate (L.length - k) (.string ⟨#[]⟩)
theorem rowL_len (L : List Tm) (k : Nat) (h : k ≤ L.length) : (rowL L k).length = L.length := by simp [rowL]; omega
theorem rowL_set (L : List Tm) (k : Nat) (h : k < L.length) : (rowL L k).set k (.string (prt L[k])) = rowL L (k + 1) := by
  unfold rowL
  have hl : ((L.take k).map (fun t => Value.string (prt t))).length = k := by simp; omega
  rw [List.set_append_right _ _ (by omega), hl, Nat.sub_self]
  rw [show L.length - k = (L.length - (k + 1)) + 1 by omega, List.replicate_succ, List.set_cons_zero, List.take_add_one, List.getElem?_eq_getElem h, List.map_append, List.append_assoc]
  rfl
theorem made_row (L : List Tm) : madeCells (Value.string ⟨#[]⟩).cells L.length = (rowL L 0).toArray := by
  apply Array.ext'
  apply List.ext_getElem?
  intro j
  by_cases hj : j < L.length
  · simp [madeCells, rowL, hj, Value.cells, Nat.mod_one]
  · simp [madeCells, rowL, hj]

theorem make_row (L : List Tm) (hl : L.length ≤ 1000) (W : World) : (Instr.makeSlice 67 (.int .i64 (L.length : Int)) (.int .i64 (L.length : Int))).run Tryz.prog W = .ok (.slice (some ⟨W.heap.size, 0, none⟩) L.length L.length) (W.alloc (.cells (rowL L 0).toArray 9)) := by
  obtain ⟨i, hi, hz, hsize, hby⟩ := info_parts Tryz.info9
  have h := run_make (P := Tryz.prog) W 67 9 i (.string ⟨#[]⟩) Tryz.underlying67 hi hz .i64 .i64 (L.length : Int) (L.length : Int) (by omega) (by omega) (by rw [hby]; omega) (by omega)
  rw [hsize, Nat.mul_one] at h
  simp only [Int.toNat_natCast] at h
  rw [made_row] at h
  exact h

theorem tail_len (sep : List UInt8) (hs : sep.length = 2) : ∀ r : List (List UInt8), (∀ x ∈ r, x.length ≤ 1000) → (Lib.joinTail sep r).length ≤ 1002 * r.length
  | [], _ => by simp [Lib.joinTail]
  | x :: r, h => by
    have h1 := tail_len sep hs r (fun y hy => h y (by simp [hy]))
    have h2 := h x (by simp)
    simp [Lib.joinTail] at h1 ⊢
    omega
theorem join_len (L : List Tm) (hp : ∀ t ∈ L, (prt t).size ≤ 1000) : (Lib.join (prtL L) [44, 32]).length ≤ 1002 * L.length := by
  cases L with
  | nil => simp [prtL, Lib.join_nil]
  | cons t r =>
    rw [prtL, List.map_cons, Lib.join_cons, List.length_append]
    have h1 := tail_len [44, 32] rfl (r.map fun t => (prt t).data.toList) (fun x hx => by
      obtain ⟨u, hu, rfl⟩ := List.mem_map.1 hx
      have := hp u (by simp [hu])
      rw [size_list] at this
      exact this)
    have h2 := hp t (by simp)
    rw [size_list] at h2
    rw [List.length_map] at h1
    rw [List.length_cons]
    omega

theorem join_any (b : Nat) (L : List Tm) (W : World) (hl : L.length ≤ 1000) (hp : ∀ t ∈ L, (prt t).size ≤ 1000) (hb : W.heap[b]? = some (.cells (rowL L L.length).toArray 9 (0, 0))) :
    Calls Tryz.prog 31 #[.slice (some ⟨b, 0, none⟩) L.length L.length, .string ⟨#[44, 32]⟩] W fun e w' => e = .returned (.string ⟨(Lib.join (prtL L) [44, 32]).toArray⟩) ∧ Below W.heap.size W w' := by
  have e1 : (L.map prt).length = L.length := List.length_map _
  have e2 : (L.map prt).map (·.data.toList) = prtL L := by simp [prtL]
  have hj := join_len L hp
  have h := Tryz.strings_Join b 0 L.length (L.map prt) ⟨#[44, 32]⟩ W (fun j x hx => by
    rw [Nat.zero_add, cell_of_row W b j _ _ _ hb]
    have : j < L.length := by
      have := (List.getElem?_eq_some_iff.1 hx).1
      simpa using this
    rw [List.getElem?_map] at hx
    have e3 : rowL L L.length = L.map (fun t => .string (prt t)) := by simp [rowL]
    rw [e3, List.getElem?_toArray, List.getElem?_map]
    cases hL : L[j]? with
    | none => rw [hL] at hx; simp at hx
    | some u =>
      rw [hL] at hx
      simp only [Option.map_some, Option.some.injEq] at hx ⊢
      rw [hx]) (Array.getElem?_eq_some_iff.1 hb).1 (by omega) (by omega) (by rw [e2]; show (Lib.join (prtL L) [44, 32]).length ≤ _; omega)
  rw [e1, e2] at h
  exact h

set_option maxHeartbeats 2000000 in
theorem fact_any (name : ByteArray) (v : Value) (L : List Tm) (w : World) (h : Ts w v L) (hl : L.length ≤ 1000) (hname : name.size ≤ 1000000) (hp : ∀ t ∈ L, (prt t).size ≤ 1000) (hn : ∀ t ∈ L, t.1 = 3 → Fm w t.2.2) :
    Calls Tryz.prog 50 #[.agg #[.string name, v]] w fun e w' => e = .returned (.string (factS name L)) ∧ Below w.heap.size w w' := by
  obtain ⟨ao, cap, rfl, h1, h2⟩ := h
  by_cases hz : L = []
  · subst hz
    have e : factS name [] = name := bytes_ext (by simp [factS, factL])
    rw [e]
    clear h2
    go_enter Tryz.func50, Tryz.ntmps50
    go_wp2
    go_ret
    exact ⟨rfl, below_box _ _⟩
  · have hpos : 0 < L.length := List.length_pos_iff.2 hz
    obtain ⟨g, off, rfl, hc⟩ := h2 hpos
    have hz' : ((L.length : Int) == 0) = false := by rw [beq_eq_false_iff_ne]; omega
    have hmk := make_row L hl
    have HC : Hid _ := hc
    clear h2 hc
    go_enter Tryz.func50, Tryz.ntmps50
    go_wp2
    go_loopw [19] (fun i wr => ∃ (k : Nat), i = .int .i64 k ∧ k ≤ L.length ∧ Hid (wr.heap[w.heap.size]? = some (.cells #[.string name, .slice (some ⟨g, off, none⟩) L.length cap] 38 (0, 0)) ∧ wr.heap[w.heap.size + 1]? = some (.cells (rowL L k).toArray 9 (0, 0))) ∧ Below w.heap.size w wr ∧ w.heap.size + 2 ≤ wr.heap.size) (fun i _ => L.length - (intOf i).toNat)
    case atStart =>
      refine ⟨0, rfl, Nat.zero_le _, ⟨?_, ?_⟩, below_box2 _ _ _, by simp⟩
      · rw [(below_box _ _).block _ (by simp)]
        exact heap_alloc_new _ _
      · have := heap_alloc_new (w.alloc (.cells #[.string name, .slice (some ⟨g, off, none⟩) L.length cap] 38)) (.cells (rowL L 0).toArray 9)
        simpa using this
    case round =>
      obtain ⟨k, rfl, hk, HR, hb, hsz⟩ := hrel
      by_cases hlt : k < L.length
      · have c := HC.out k hlt
        have c0 := (World.cell?_of_block (hb.block g (World.block_lt_of_cell? w _ c.1))).trans c.1
        have c1 := (World.cell?_of_block (hb.block g (World.block_lt_of_cell? w _ c.1))).trans c.2.1
        have c2 := (World.cell?_of_block (hb.block g (World.block_lt_of_cell? w _ c.1))).trans c.2.2
        have hfm := hn _ (List.getElem_mem hlt)
        have HP : Hid (∀ o, Calls Tryz.prog 67 #[.agg #[.int .i64 L[k].1, .string L[k].2.1, .int .i64 L[k].2.2]] (wr.alloc o) fun e w' => e = .returned (.string (prt L[k])) ∧ w'.heap[w.heap.size]? = some (.cells #[.string name, .slice (some ⟨g, off, none⟩) L.length cap] 38 (0, 0)) ∧ w'.heap[w.heap.size + 1]? = some (.cells (rowL L k).toArray 9 (0, 0)) ∧ Below w.heap.size w w' ∧ w.heap.size + 2 ≤ w'.heap.size) := fun o => by
          have hbo : Below w.heap.size w (wr.alloc o) := hb.alloc hb.size o
          refine (print_any L[k] (wr.alloc o) (fun h3 => (hfm h3).below hbo)).mono ?_
          rintro e w' ⟨rfl, hb2⟩
          have hs2 := hb2.size
          simp at hs2
          exact ⟨rfl, by rw [hb2.block _ (by simp; omega), (below_box _ o).block _ (by omega)]; exact HR.out.1, by rw [hb2.block _ (by simp; omega), (below_box _ o).block _ (by omega)]; exact HR.out.2, hbo.trans (hb2.mono (by simp; omega)), by omega⟩
        have HT := rowL_set L k hlt
        have hlt' : (k : Int) < (L.length : Int) := by omega
        have hrl := rowL_len L k hk
        generalize prt L[k] = P at *
        generalize L[k] = t at *
        have HT' : Hid _ := HT
        clear c HT hfm
        go_wp2_with fail
        refine (HP.out _).mono ?_
        rintro e w' ⟨rfl, b1, b2, b3, b4⟩
        obtain ⟨x, hx⟩ : ∃ x, w'.cell? ⟨w.heap.size + 1, k, none⟩ = some x := by
          rw [cell_of_row w' _ k _ _ _ b2]
          exact ⟨_, Array.getElem?_eq_getElem (by simp [hrl]; omega)⟩
        have hfz : w'.frozen? ⟨w.heap.size + 1, k, none⟩ = false := by simp [World.frozen?, b2]
        have HY : Hid ((w'.setCell ⟨w.heap.size + 1, k, none⟩ (.string P)).heap[w.heap.size]? = some (.cells #[.string name, .slice (some ⟨g, off, none⟩) L.length cap] 38 (0, 0)) ∧ (w'.setCell ⟨w.heap.size + 1, k, none⟩ (.string P)).heap[w.heap.size + 1]? = some (.cells (rowL L (k + 1)).toArray 9 (0, 0))) := by
          refine ⟨?_, ?_⟩
          · rw [(Fr.one w' (w.heap.size + 1) k _).block _ (by omega) (by omega)]; exact b1
          · rw [heap_set b2, ← HT'.out]
            simp
        have HZ : Hid (Below w.heap.size w (w'.setCell ⟨w.heap.size + 1, k, none⟩ (.string P))) := b3.setCell (by simp) _
        clear b1 b2
        go_wp2
        go_roundw
        case rel => exact ⟨k + 1, by go_num, by omega, HY, HZ.out, by rw [setCell_size]; exact b4⟩
        case measure => simp [intOf]; omega
      · have hke : k = L.length := by omega
        subst hke
        have HJ : Hid (∀ n, Calls Tryz.prog 31 #[.slice (some ⟨w.heap.size + 1, 0, none⟩) L.length L.length, .string ⟨#[44, 32]⟩] (wr.drewN n) fun e w' => e = .returned (.string ⟨(Lib.join (prtL L) [44, 32]).toArray⟩) ∧ w'.cell? ⟨w.heap.size, 0, none⟩ = some (.string name) ∧ Below w.heap.size w w') := fun n => by
          refine (join_any (w.heap.size + 1) L (wr.drewN n) hl hp HR.out.2).mono ?_
          rintro e w' ⟨rfl, hb2⟩
          have hs2 : wr.heap.size ≤ w'.heap.size := hb2.size
          refine ⟨rfl, ?_, ?_⟩
          · have : w'.heap[w.heap.size]? = some (.cells #[.string name, .slice (some ⟨g, off, none⟩) L.length cap] 38 (0, 0)) := by
              rw [hb2.block _ (by show _ < wr.heap.size; omega)]
              exact HR.out.1
            rw [cell_of_row w' _ 0 _ _ _ this]
            rfl
          · exact Below.trans (b := wr.drewN n) ⟨hb.os, hb.tape, hb.output, hb.size, hb.block⟩ (hb2.mono hb.size)
        have hj := join_len L hp
        have cn : wr.cell? ⟨w.heap.size, 0, none⟩ = some (.string name) := by
          rw [cell_of_row wr _ 0 _ _ _ HR.out.1]
          rfl
        have HE : Hid (factS name L = ((name ++ ⟨#[40]⟩) ++ ⟨(Lib.join (prtL L) [44, 32]).toArray⟩) ++ ⟨#[41]⟩) := by
          show _ = _
          apply bytes_ext
          rw [bytes_app, bytes_app, bytes_app]
          simp [factS, factL, hz]
        obtain ⟨J, HJe⟩ : ∃ J, Hid (J = (⟨(Lib.join (prtL L) [44, 32]).toArray⟩ : ByteArray)) := ⟨_, (rfl : _ = _)⟩
        have hJ : J.size ≤ 1002000 := by
          rw [HJe.out, size_list]
          show (Lib.join (prtL L) [44, 32]).length ≤ _
          omega
        rw [← HJe.out] at HJ HE
        have HJ1 : Hid _ := HJ.out 1
        clear HJe hj HJ
        go_wp2_with fail
        go_region_held (fun w' => w'.cell? ⟨w.heap.size, 0, none⟩ = some (.string name)) (first | exact cn | exact m0)
          (first | (go_at_call 31; refine Calls.mono HJ1.out ?_; rintro e w2 ⟨rfl, m0, hb2⟩))
        all_goals go_wp2
        all_goals go_ret
        all_goals exact ⟨ret_str HE.out.symm, hb2⟩
end Go.Proofs.YtcfhpodpkficaaaGreatDoor.Vl
namespace Go.Proofs.YtcfhpodpkficaaaGreatDoor.Sy
open Lx (Wd tx scanL scanAt frontL frontAt kindN kindL sizeL nameN varN smallN digitN runP)
open Vl (Tm)

abbrev Lit := Int × ByteArray × List Tm
abbrev Rul := Lit × List Lit
/-- What is read of words: an error (true: a limit, false: the grammar), or a thing and the words behind it. -/
abbrev Re (α : Type) := Except Bool (α × List Wd)

/-- The value of digits. -/
def valStep (n : Nat) (c : UInt8) : Nat := n * 10 + (c.toNat - 48)
def valL (acc : Nat) (x : List UInt8) : Nat := x.foldl valStep acc
theorem valL_nil (acc : Nat) : valL acc [] = acc := List.foldl_nil
theorem valL_cons (acc : Nat) (c : UInt8) (r : List UInt8) : valL acc (c :: r) = valL (acc * 10 + (c.toNat - 48)) r := List.foldl_cons ..
/-- The value of a number's word. -/
def numOf (x : List UInt8) : Int := if (x.getD 0 0).toNat = 45 then -((valL 0 x.tail : Nat) : Int) else ((valL 0 x : Nat) : Int)

def nextW : List Wd → Wd
  | [] => (0, [], 0)
  | x :: _ => x
def takeB (s : List UInt8) (ws : List Wd) : Bool := decide ((nextW ws).2.1 = s)
def takeR (s : List UInt8) (ws : List Wd) : List Wd := if takeB s ws = true then ws.tail else ws

/-- The constant that a word says. -/
def constW (x : Wd) : Option Tm :=
  if x.1 = 1 then some (2, tx x.2.1, 0)
  else if x.1 = 3 then (if -2147483648 ≤ numOf x.2.1 ∧ numOf x.2.1 ≤ 2147483648 then some (3, ⟨#[]⟩, numOf x.2.1) else none) else none
def termW (x : Wd) : Option Tm := if x.1 = 2 then some (1, tx x.2.1, 0) else constW x
def oneL (f : Wd → Option Tm) (ws : List Wd) : Re Tm :=
  match f (nextW ws) with
  | none => .error false
  | some t => .ok (t, ws.tail)
def constL : List Wd → Re Tm := oneL constW
def termL : List Wd → Re Tm := oneL termW

/-- One item or several with a comma between, so many and one more at most. -/
def listL {α : Type} (item : List Wd → Re α) : Nat → List Wd → Re (List α)
  | 0, ws => match item ws with
    | .error e => .error e
    | .ok _ => .error true
  | n + 1, ws => match item ws with
    | .error e => .error e
    | .ok (x, t) => if takeB [44] t = true then (match listL item n t.tail with
        | .error e => .error e
        | .ok (l, r) => .ok (x :: l, r)) else .ok ([x], t)

def atomL (f : Wd → Option Tm) (ws : List Wd) : Re Lit :=
  if (nextW ws).1 = 1 then
    (if takeB [40] ws.tail = true then (match listL (oneL f) 4 ws.tail.tail with
      | .error e => .error e
      | .ok (l, r) => if takeB [41] r = true then .ok ((1, tx (nextW ws).2.1, l), r.tail) else .error false)
    else .ok ((1, tx (nextW ws).2.1, []), ws.tail))
  else .error false

/-- The kind of a comparison's sign; 0: it is none. -/
def kindOf (x : List UInt8) : Nat := if x = [61] then 3 else if x = [33, 61] then 4 else if x = [60] then 5 else if x = [60, 61] then 6 else 0

def cmpL (ws : List Wd) : Re Lit :=
  match termL ws with
  | .error e => .error e
  | .ok (a, t) => if kindOf (nextW t).2.1 = 0 then .error false else (match termL t.tail with
    | .error e => .error e
    | .ok (b, r) => .ok (((kindOf (nextW t).2.1 : Nat), ⟨#[]⟩, [a, b]), r))

def litL (ws : List Wd) : Re Lit :=
  if takeB [33] ws = true then (match atomL termW ws.tail with
    | .error e => .error e
    | .ok (l, r) => .ok ((2, l.2), r))
  else if (nextW ws).1 = 1 ∧ kindOf (nextW ws.tail).2.1 = 0 then atomL termW ws
  else cmpL ws

def clauseL (ws : List Wd) : Re Rul :=
  match atomL termW ws with
  | .error e => .error e
  | .ok (h, t) => if takeB [58, 45] t = true then (match listL litL 6 t.tail with
      | .error e => .error e
      | .ok (b, r) => if takeB [46] r = true then .ok ((h, b), r.tail) else .error false)
    else if takeB [46] t = true then .ok ((h, []), t.tail) else .error false

/-- Clauses, so many and one more at most. -/
def progL : Nat → List Wd → Except Bool (List Rul)
  | _, [] => .ok []
  | 0, x :: ws => match clauseL (x :: ws) with
    | .error e => .error e
    | .ok _ => .error true
  | n + 1, x :: ws => match clauseL (x :: ws) with
    | .error e => .error e
    | .ok (c, r) => (match progL n r with
      | .error e => .error e
      | .ok l => .ok (c :: l))

/-- An atom alone, with or without a stop behind. -/
def onlyL (f : Wd → Option Tm) (ws : List Wd) : Except Bool Lit :=
  match atomL f ws with
  | .error e => .error e
  | .ok (l, t) => if (takeR [46] t) = [] then .ok l else .error false

/-- The words of a text, a word that fits nowhere in the place of the first fault. -/
def wordsL (S : List UInt8) : List Wd := match scanAt S 0 with
  | some L => L
  | none => frontAt S 0 ++ [(0, [], 0)]

/-- What a word is, by its bytes. -/
structure OkW (x : Wd) : Prop where
  ne : x.2.1 ≠ []
  kind : x.1 = kindL x.2.1
  len : x.2.1.length ≤ 16
  name : x.1 = 1 → ∀ c ∈ x.2.1, nameN c.toNat = true
  num : x.1 = 3 → (∀ c ∈ x.2.1, digitN c.toNat = true) ∨ ∃ r, x.2.1 = 45 :: r ∧ r ≠ [] ∧ ∀ c ∈ r, digitN c.toNat = true
/-- A word, or the mark of a fault. -/
def OkF (x : Wd) : Prop := OkW x ∨ x = (0, [], 0)

theorem runP_mem (p : Nat → Bool) (L : List UInt8) : ∀ c ∈ L.take (runP p L), p c.toNat = true := by
  induction L with
  | nil => simp
  | cons d t ih =>
    by_cases h : p d.toNat = true
    · have e : runP p (d :: t) = runP p t + 1 := by simp [runP, h]
      rw [e, List.take_succ_cons]
      intro c hc
      rcases List.mem_cons.1 hc with rfl | hc
      · exact h
      · exact ih c hc
    · have e : runP p (d :: t) = 0 := by simp [runP, h]
      rw [e]
      simp

theorem num_form (c : UInt8) (t : List UInt8) (h0 : Lx.numL (c :: t) ≠ 0) :
    (∀ d ∈ (c :: t).take (Lx.numL (c :: t)), digitN d.toNat = true) ∨ ∃ r, (c :: t).take (Lx.numL (c :: t)) = 45 :: r ∧ r ≠ [] ∧ ∀ d ∈ r, digitN d.toNat = true := by
  by_cases h1 : c.toNat = 48
  · left
    have e : Lx.numL (c :: t) = 1 := by simp [Lx.numL, h1]
    rw [e]
    intro d hd
    simp at hd
    rw [hd, h1]; rfl
  · by_cases h2 : c.toNat = 45
    · match t with
      | [] => simp [Lx.numL, h2] at h0
      | d :: r =>
        by_cases h3 : d.toNat = 48
        · simp [Lx.numL, h2, h3] at h0
        · by_cases h4 : digitN d.toNat = true
          · right
            have e : Lx.numL (c :: d :: r) = runP digitN r + 2 := by simp [Lx.numL, h2, h3, h4]
            refine ⟨d :: r.take (runP digitN r), ?_, by simp, ?_⟩
            · rw [e]
              have hc : c = 45 := by
                have := UInt8.toNat_inj.1 (show c.toNat = (45 : UInt8).toNat by rw [h2]; rfl)
                exact this
              simp [hc]
            · intro y hy
              rcases List.mem_cons.1 hy with rfl | hy
              · exact h4
              · exact runP_mem _ _ y hy
          · simp [Lx.numL, h2, h3, h4] at h0
    · left
      have e : Lx.numL (c :: t) = runP digitN (c :: t) := by simp only [Lx.numL, if_neg h1, if_neg h2]
      rw [e]
      exact runP_mem _ _

theorem okW_first (c : UInt8) (t : List UInt8) (a : Nat) (hs : ¬ (sizeL (c :: t) = 0 ∨ 16 < sizeL (c :: t))) : OkW (kindL (c :: t), (c :: t).take (sizeL (c :: t)), a) := by
  have h0 : sizeL (c :: t) ≠ 0 := fun h => hs (Or.inl h)
  have hk : kindL ((c :: t).take (sizeL (c :: t))) = kindL (c :: t) := by
    obtain ⟨m, hm⟩ : ∃ m, sizeL (c :: t) = m + 1 := ⟨sizeL (c :: t) - 1, by omega⟩
    rw [hm]
    simp [kindL]
  refine ⟨?_, hk.symm, ?_, ?_, ?_⟩
  · intro h
    have := congrArg List.length h
    rw [List.length_take] at this
    simp at this
    omega
  · rw [List.length_take]
    omega
  · intro h1
    have h1' : kindL (c :: t) = 1 := h1
    have e : sizeL (c :: t) = runP nameN (c :: t) := by simp [sizeL, h1']
    show ∀ d ∈ (c :: t).take (sizeL (c :: t)), _
    rw [e]
    exact runP_mem _ _
  · intro h3
    have h3' : kindL (c :: t) = 3 := h3
    have e : sizeL (c :: t) = Lx.numL (c :: t) := by simp [sizeL, h3']
    have := num_form c t (by rw [← e]; exact h0)
    rw [← e] at this
    exact this

theorem front_ok (n : Nat) : ∀ (L : List UInt8) (a : Nat), L.length ≤ n → (∀ x ∈ frontL L a, OkW x) ∧ (frontL L a).length ≤ L.length := by
  induction n with
  | zero =>
    intro L a hl
    obtain rfl : L = [] := by cases L; rfl; simp at hl
    rw [Lx.frontL_nil]
    simp
  | succ n ih =>
    intro L a hl
    match L with
    | [] => rw [Lx.frontL_nil]; simp
    | c :: t =>
      simp only [List.length_cons] at hl
      rw [Lx.frontL_cons]
      by_cases hb : Lx.blankN c.toNat = true
      · rw [if_pos hb]
        have := ih t (a + 1) (by omega)
        exact ⟨this.1, by simp only [List.length_cons]; omega⟩
      · rw [if_neg hb]
        by_cases hn : c.toNat = 37
        · rw [if_pos hn]
          have := ih (t.drop (Lx.lineL t)) (a + 1 + Lx.lineL t) (by rw [List.length_drop]; omega)
          rw [List.length_drop] at this
          exact ⟨this.1, by simp only [List.length_cons]; omega⟩
        · rw [if_neg hn]
          by_cases hs : sizeL (c :: t) = 0 ∨ 16 < sizeL (c :: t)
          · rw [if_pos hs]; simp
          · rw [if_neg hs]
            have := ih (t.drop (sizeL (c :: t) - 1)) (a + sizeL (c :: t)) (by rw [List.length_drop]; omega)
            rw [List.length_drop] at this
            refine ⟨fun x hx => ?_, by simp only [List.length_cons]; omega⟩
            rcases List.mem_cons.1 hx with rfl | hx
            · exact okW_first c t a hs
            · exact this.1 x hx

theorem words_ok (S : List UInt8) : (∀ x ∈ wordsL S, OkF x) ∧ (wordsL S).length ≤ S.length + 1 := by
  have h := front_ok _ (S.drop 0) 0 (Nat.le_refl _)
  have hl : (frontAt S 0).length ≤ S.length := by simpa [frontAt] using h.2
  have h1 : ∀ x ∈ frontAt S 0, OkW x := h.1
  unfold wordsL
  cases hs : scanAt S 0 with
  | some L =>
    have e := Lx.frontAt_of_scan hs
    simp only []
    rw [← e]
    exact ⟨fun x hx => Or.inl (h1 x hx), by omega⟩
  | none =>
    simp only [List.length_append, List.length_cons, List.length_nil]
    refine ⟨fun x hx => ?_, by omega⟩
    rcases List.mem_append.1 hx with hx | hx
    · exact Or.inl (h1 x hx)
    · right; simpa using hx

theorem next_okF {ws : List Wd} (h : ∀ x ∈ ws, OkF x) : OkF (nextW ws) := by
  cases ws with
  | nil => exact Or.inr rfl
  | cons x t => exact h x (by simp)
theorem tail_okF {ws : List Wd} (h : ∀ x ∈ ws, OkF x) : ∀ x ∈ ws.tail, OkF x := fun x hx => h x (List.mem_of_mem_tail hx)

/-- A name's word may be a constant. -/
theorem ok_name {x : Wd} (h : OkW x) (h1 : x.1 = 1) : Vl.wordS (tx x.2.1) = true := by
  rw [Vl.wordS_iff]
  have hne := h.ne
  have hk := h.kind
  have hlen := h.len
  have hname := h.name h1
  obtain ⟨k, s, p⟩ := x
  simp only at h1 hk hlen hname hne
  obtain ⟨c, t, rfl⟩ := List.exists_cons_of_ne_nil hne
  have hn1 : ∀ n, Vl.restN n = nameN n := fun n => rfl
  refine ⟨by rw [Lx.tx_size]; simp, by rw [Lx.tx_size]; exact hlen, ?_, ?_⟩
  · have hsm : kindN c.toNat = 1 := by rw [← h1, hk]; simp [kindL]
    have : smallN c.toNat = true := by
      cases hx : smallN c.toNat with
      | true => rfl
      | false =>
        exfalso
        simp only [kindN, hx] at hsm
        split at hsm
        · rename_i h; cases h
        · split at hsm
          · omega
          · split at hsm <;> omega
    exact this
  · intro j hj hl
    rw [Lx.tx_size] at hl
    rw [hn1]
    have : Vl.bt (tx (c :: t)) j = ((c :: t)[j]).toNat := by
      show ((c :: t).getD j 0).toNat = _
      rw [List.getD, List.getElem?_eq_getElem hl]
      rfl
    rw [this]
    exact hname _ (List.getElem_mem _)

theorem digit_range {n : Nat} (h : digitN n = true) : 48 ≤ n ∧ n ≤ 57 := by
  simpa [digitN] using h

theorem parse_digits (r : List UInt8) : ∀ acc k : Nat, acc < 10 ^ k → k + r.length ≤ 18 → (∀ c ∈ r, digitN c.toNat = true) → Lib.parseUintM (2 ^ 64 - 1) acc r = .ok (valL acc r) ∧ valL acc r < 10 ^ (k + r.length) := by
  induction r with
  | nil => intro acc k h _ _; exact ⟨by rw [Lib.parseUintM, valL_nil], by rw [valL_nil]; simpa using h⟩
  | cons c t ih =>
    intro acc k h hk hd
    obtain ⟨d1, d2⟩ := digit_range (hd c (by simp))
    have hpow : 10 ^ (k + 1) = 10 ^ k * 10 := Nat.pow_succ _ _
    have hlt : acc * 10 + (c.toNat - 48) < 10 ^ (k + 1) := by omega
    have hk1 : k + 1 ≤ 18 := by simp at hk; omega
    have hbig : 10 ^ (k + 1) ≤ 10 ^ 18 := Nat.pow_le_pow_right (by decide) hk1
    have hv : (10 : Nat) ^ 18 = 1000000000000000000 := by decide
    have h64 : (2 : Nat) ^ 64 - 1 = 18446744073709551615 := by decide
    have := ih (acc * 10 + (c.toNat - 48)) (k + 1) hlt (by simp at hk ⊢; omega) (fun y hy => hd y (by simp [hy]))
    refine ⟨?_, ?_⟩
    · rw [Lib.parseUintM, if_pos ⟨d1, d2⟩, if_neg (by omega), if_neg (by omega)]
      exact this.1
    · rw [valL_cons, List.length_cons, show k + (t.length + 1) = k + 1 + t.length by omega]
      exact this.2

theorem ok_num {x : Wd} (h : OkW x) (h3 : x.1 = 3) : Lib.parseIntB 64 x.2.1 = .ok (numOf x.2.1) := by
  have hlen := h.len
  have hne := h.ne
  have hbig : (10 : Nat) ^ 16 = 10000000000000000 := by decide
  have h63 : (2 : Nat) ^ (64 - 1) = 9223372036854775808 := by decide
  rcases h.num h3 with hd | ⟨r, hr, hrn, hd⟩
  · obtain ⟨c, t, hx⟩ := List.exists_cons_of_ne_nil hne
    have hc := digit_range (hd c (by rw [hx]; simp))
    have hp := parse_digits x.2.1 0 0 (by decide) (by omega) hd
    have hle : (10 : Nat) ^ (0 + x.2.1.length) ≤ 10 ^ 16 := Nat.pow_le_pow_right (by decide) (by omega)
    rw [hx] at hp hle ⊢
    have e1 : numOf (c :: t) = ((valL 0 (c :: t) : Nat) : Int) := by
      unfold numOf
      rw [if_neg (by simp; omega)]
    rw [e1]
    unfold Lib.parseIntB
    simp only []
    rw [if_neg (by omega), Lib.parseUintB, if_neg (by simp), hp.1]
    simp only []
    rw [if_neg (by omega), if_neg (by omega), if_neg (by omega)]
  · have hp := parse_digits r 0 0 (by decide) (by rw [hr] at hlen; simp at hlen; omega) hd
    have hle : (10 : Nat) ^ (0 + r.length) ≤ 10 ^ 16 := Nat.pow_le_pow_right (by decide) (by rw [hr] at hlen; simp at hlen; omega)
    rw [hr]
    have e1 : numOf (45 :: r) = -((valL 0 r : Nat) : Int) := by
      unfold numOf
      rw [if_pos (by rfl)]
      rfl
    rw [e1]
    unfold Lib.parseIntB
    simp only []
    rw [if_pos (by right; rfl), Lib.parseUintB, if_neg hrn, hp.1]
    simp only []
    have h45 : (45 : UInt8).toNat = 45 := rfl
    rw [if_neg (by rw [h45]; omega), if_neg (by omega), if_pos h45]

end Go.Proofs.YtcfhpodpkficaaaGreatDoor.Sy
namespace Go.Proofs.YtcfhpodpkficaaaGreatDoor.Sy
open Go.RowKit
open Lx (Wd tx cellsW)
open Vl (Tm Fr)

theorem hide {p : Prop} (h : p) : Hid p := h
/-- A reader at block r, at its a-th word. -/
structure Rd (w : World) (r : Nat) (v : Value) (L : List Wd) (a : Nat) : Prop where
  box : w.heap[r]? = some (.cells #[v, .int .i64 (a : Int)] 81 (0, 0))
  row : w.ownsRow 0 101 3 v L.length (cellsW L)
  le : a ≤ L.length
  len : L.length ≤ 5000

theorem Rd.lt {w : World} {r : Nat} {v : Value} {L : List Wd} {a : Nat} (h : Rd w r v L a) : r < w.heap.size := (Array.getElem?_eq_some_iff.1 h.box).1
theorem Rd.not {w : World} {r : Nat} {v : Value} {L : List Wd} {a : Nat} (h : Rd w r v L a) {b e s n : Nat} {u : Value} {xs : List Value} (ho : w.ownsRow b e s u n xs) (he : e ≠ 81) : ∀ k, u.ownBlock = some k → ¬ k = r := by
  intro k hk e2
  subst e2
  rcases ho.2 with ⟨rfl, _⟩ | ⟨g, cap, cur, rfl, _, hg, _⟩
  · simp [Value.ownBlock] at hk
  · simp [Value.ownBlock] at hk
    subst hk
    rw [h.box] at hg
    simp only [Option.some.injEq, Obj.cells.injEq] at hg
    exact he hg.2.1.symm
/-- Rows other than readers stay, as long as the reader alone has turned. -/
theorem Rd.kept {w w' : World} {r : Nat} {v : Value} {L : List Wd} {a : Nat} (h : Rd w r v L a) (hf : Fr (fun k => k = r) w w') {b e s n : Nat} {u : Value} {xs : List Value} (ho : w.ownsRow b e s u n xs) (he : e ≠ 81) : w'.ownsRow b e s u n xs :=
  Vl.own_kept ho hf (h.not ho he)
theorem Rd.below {w w' : World} {r : Nat} {v : Value} {L : List Wd} {a : Nat} (h : Rd w r v L a) (hb : Below w.heap.size w w') : Rd w' r v L a :=
  ⟨by rw [hb.block r h.lt]; exact h.box, Lx.own_below h.row hb, h.le, h.len⟩
/-- Behind a store of the place. -/
theorem Rd.set {w w' : World} {r : Nat} {v : Value} {L : List Wd} {a : Nat} (h : Rd w r v L a) (hb : Below w.heap.size w w') (b : Nat) (hl : b ≤ L.length) :
    Rd (w'.setCell ⟨r, 1, none⟩ (.int .i64 (b : Int))) r v L b ∧ Fr (fun k => k = r) w (w'.setCell ⟨r, 1, none⟩ (.int .i64 (b : Int))) := by
  have h' := h.below hb
  have hf : Fr (fun k => k = r) w' (w'.setCell ⟨r, 1, none⟩ (.int .i64 (b : Int))) := Vl.Fr.one w' r 1 _
  refine ⟨⟨?_, h'.kept hf h'.row (by decide), hl, h.len⟩, (Fr.of_below hb).trans hf (fun _ _ e => e)⟩
  rw [Vl.heap_set h'.box]
  rfl
/-- Behind the word that comes next. -/
theorem Rd.step {w w' : World} {r : Nat} {v : Value} {L : List Wd} {a : Nat} (h : Rd w r v L a) (hb : Below w.heap.size w w') (hl : a < L.length) :
    Rd (w'.setCell ⟨r, 1, none⟩ (.int .i64 (wrap64 ((a : Int) + 1)))) r v L (a + 1) ∧ Fr (fun k => k = r) w (w'.setCell ⟨r, 1, none⟩ (.int .i64 (wrap64 ((a : Int) + 1)))) := by
  have := h.len
  have e : wrap64 ((a : Int) + 1) = ((a + 1 : Nat) : Int) := by unfold wrap64; omega
  rw [e]
  exact h.set hb (a + 1) (by omega)
theorem Rd.cells {w : World} {r : Nat} {v : Value} {L : List Wd} {a : Nat} (h : Rd w r v L a) : w.cell? ⟨r, 0, none⟩ = some v ∧ w.cell? ⟨r, 1, none⟩ = some (.int .i64 (a : Int)) ∧ w.frozen? ⟨r, 1, none⟩ = false :=
  ⟨by rw [cell_of_row w r 0 _ _ _ h.box]; rfl, by rw [cell_of_row w r 1 _ _ _ h.box]; rfl, by simp [World.frozen?, h.box]⟩
theorem Rd.shape {w : World} {r : Nat} {v : Value} {L : List Wd} {a : Nat} (h : Rd w r v L a) : ∃ ao cap, v = .slice ao L.length cap ∧ (0 < L.length → ∃ g, ao = some ⟨g, 0, none⟩ ∧ ∀ i (hi : i < L.length), w.cell? ⟨g, i * 3, none⟩ = some (.int .i64 (L[i].1 : Int)) ∧ w.cell? ⟨g, i * 3 + 1, none⟩ = some (.string (tx L[i].2.1)) ∧ w.cell? ⟨g, i * 3 + 2, none⟩ = some (.int .i64 (L[i].2.2 : Int))) := by
  have ho := h.row
  rcases Lx.own_shape ho with ⟨rfl, h0⟩ | ⟨g, cap, rfl, _⟩
  · exact ⟨none, 0, by rw [h0], fun hp => by omega⟩
  · refine ⟨_, cap, rfl, fun _ => ⟨g, rfl, fun i hi => ?_⟩⟩
    have hc := Lx.cellsW_get L i hi
    exact ⟨(ho.cellAt _ (by omega)).trans hc.1, (ho.cellAt _ (by omega)).trans hc.2.1, (ho.cellAt _ (by omega)).trans hc.2.2⟩

/-- A word as a value. -/
def wv (x : Wd) : Value := .agg #[.int .i64 (x.1 : Int), .string (tx x.2.1), .int .i64 (x.2.2 : Int)]
theorem drop_next (L : List Wd) (a : Nat) (h : a < L.length) : nextW (L.drop a) = L[a] := by
  rw [List.drop_eq_getElem_cons h]; rfl
theorem drop_end (L : List Wd) (a : Nat) (h : L.length ≤ a) : L.drop a = [] := List.drop_eq_nil_of_le h
theorem drop_tail (L : List Wd) (a : Nat) : (L.drop a).tail = L.drop (a + 1) := by simp

theorem below_drewN (w : World) (n : Nat) : Below w.heap.size w (w.drewN n) := ⟨rfl, rfl, rfl, Nat.le_refl _, fun _ _ => rfl⟩

theorem done_any {w : World} {r : Nat} {v : Value} {L : List Wd} {a : Nat} (h : Rd w r v L a) :
    Calls Tryz.prog 22 #[.pointer (some ⟨r, 0, none⟩)] w fun e w' => e = .returned (.bool (decide (a = L.length))) ∧ ∃ n, w' = w.drewN n := by
  obtain ⟨c0, c1, _⟩ := h.cells
  obtain ⟨ao, cap, rfl, _⟩ := h.shape
  go_enter Tryz.func22, Tryz.ntmps22
  go_wp2
  go_quiet (fail)
  go_wp2
  go_ret
  refine ⟨Vl.ret_bool ?_, _, rfl⟩
  rw [Bool.eq_iff_iff]
  simp
  omega

/-- A block of cells in memory. -/
def Bx (w : World) (b : Nat) (T : TypeId) (cs : Array Value) : Prop := w.heap[b]? = some (.cells cs T (0, 0))
theorem Bx.lt {w : World} {b : Nat} {T : TypeId} {cs : Array Value} (h : Bx w b T cs) : b < w.heap.size := (Array.getElem?_eq_some_iff.1 h).1
theorem Bx.c {w : World} {b : Nat} {T : TypeId} {cs : Array Value} (h : Bx w b T cs) (i : Nat) : w.cell? ⟨b, i, none⟩ = cs[i]? := cell_of_row w b i _ _ _ h
theorem Bx.f {w : World} {b : Nat} {T : TypeId} {cs : Array Value} (h : Bx w b T cs) (i : Nat) : w.frozen? ⟨b, i, none⟩ = false := frozen_of_row w b i _ _ h
theorem Bx.fr {w w' : World} {b : Nat} {T : TypeId} {cs : Array Value} (h : Bx w b T cs) {F : Nat → Prop} (hf : Fr F w w') (hb : ¬ F b) : Bx w' b T cs := by
  unfold Bx
  rw [hf.block b h.lt hb]
  exact h
theorem Bx.below {w w' : World} {b : Nat} {T : TypeId} {cs : Array Value} (h : Bx w b T cs) (hf : Below w.heap.size w w') : Bx w' b T cs := h.fr (F := fun _ => False) (Fr.of_below hf) id
theorem Bx.new (w : World) (cs : Array Value) (T : TypeId) : Bx (w.alloc (.cells cs T)) w.heap.size T cs := heap_alloc_new _ _
theorem Bx.set {w : World} {b : Nat} {T : TypeId} {cs : Array Value} (h : Bx w b T cs) (i : Nat) (v : Value) : Bx (w.setCell ⟨b, i, none⟩ v) b T (cs.setIfInBounds i v) := Vl.heap_set h v
theorem Bx.ne {w : World} {r : Nat} {v : Value} {L : List Wd} {a : Nat} (hr : Rd w r v L a) {b : Nat} {T : TypeId} {cs : Array Value} (h : Bx w b T cs) (hT : T ≠ 81) : ¬ b = r := by
  intro e
  subst e
  have hg := hr.box.symm.trans h
  simp only [Option.some.injEq, Obj.cells.injEq] at hg
  exact hT hg.2.1.symm
theorem Bx.kept {w w' : World} {r : Nat} {v : Value} {L : List Wd} {a : Nat} (hr : Rd w r v L a) {b : Nat} {T : TypeId} {cs : Array Value} (h : Bx w b T cs) (hT : T ≠ 81) (hf : Fr (fun k => k = r) w w') : Bx w' b T cs := h.fr hf (h.ne hr hT)

/-- A result that lies in a cell, an error beside it. -/
theorem ret_cell {fn : Func} {p u : Tmp} {ty : TypeId} (h : fn.results = #[.cell p ty, .tmp u]) (tmps : Array Value) (w : World) (g : Nat) (t : TypeId) (cs : Array Value) {d}
    (hp : tmps.getD p undef = .pointer (some ⟨g, 0, none⟩)) (hg : Bx w g t cs)
    (hu : Tryz.prog.underlying ty = some (.struct d)) (hi : (Tryz.prog.info? ty).map (·.size) = some cs.size) :
    (results fn tmps).run Tryz.prog w = .ok (.tuple #[.agg cs, tmps.getD u undef]) w := by
  rw [results_cell_tmp h, hp]
  have hl := run_loadVar_row (P := Tryz.prog) w g t ty cs (0, 0) _ hg hu rfl hi
  have ha : (asAddr (.pointer (some ⟨g, 0, none⟩))).run Tryz.prog w = .ok ⟨g, 0, none⟩ w := rfl
  rw [ha]
  simp only [Result.andThen, hl]

set_option maxRecDepth 10000 in
theorem next_any {w : World} {r : Nat} {v : Value} {L : List Wd} {a : Nat} (h : Rd w r v L a) :
    Calls Tryz.prog 56 #[.pointer (some ⟨r, 0, none⟩)] w fun e w' => e = .returned (wv (nextW (L.drop a))) ∧ Below w.heap.size w w' := by
  by_cases hl : a < L.length
  · have hx : nextW (L.drop a) = L[a] := drop_next L a hl
    rw [hx]
    have hd : decide (a = L.length) = false := by simp; omega
    have HD : Hid (∀ o, Calls Tryz.prog 22 #[.pointer (some ⟨r, 0, none⟩)] (w.alloc o) fun e w' => e = .returned (.bool false) ∧ ∃ n, w' = (w.alloc o).drewN n) := fun o => by
      have := done_any (h.below (Lx.below_box w o))
      rw [hd] at this
      exact this
    obtain ⟨ao, cap, rfl, hc0⟩ := h.shape
    obtain ⟨g, rfl, hc⟩ := hc0 (by omega)
    have c0 := fun o => (h.below (Lx.below_box w o)).cells.1
    have c1 := fun o => (h.below (Lx.below_box w o)).cells.2.1
    have HC := hc a hl
    have k0 := fun o => (World.cell?_of_block ((Lx.below_box w o).block g (World.block_lt_of_cell? w _ HC.1))).trans HC.1
    have k1 := fun o => (World.cell?_of_block ((Lx.below_box w o).block g (World.block_lt_of_cell? w _ HC.2.1))).trans HC.2.1
    have k2 := fun o => (World.cell?_of_block ((Lx.below_box w o).block g (World.block_lt_of_cell? w _ HC.2.2))).trans HC.2.2
    clear hc hc0 h hd hx HC
    generalize L[a] = x at *
    go_enter Tryz.func56, Tryz.ntmps56
    go_wp2_with fail
    refine (HD.out _).mono ?_
    rintro e w1 ⟨rfl, n, rfl⟩
    go_wp2_with fail
    refine wp_region_still_tail 10 (by kernel_rfl) (by kernel_rfl) ?_
    change wpStill Tryz.prog _ (World.drew (World.drewN (w.alloc (.cells #[.int .i64 0, .string ⟨#[]⟩, .int .i64 0] 101)) n)) (fun a' => wpList Tryz.prog _ _ _ a' (World.drew (World.drewN (w.alloc (.cells #[.int .i64 0, .string ⟨#[]⟩, .int .i64 0] 101)) n))) _ _
    simp only [List.take_succ_cons, List.take_zero, List.drop_succ_cons, List.drop_zero]
    repeat still_step
    refine wpStill_nil ?_
    go_wp2_with fail
    have hB : Bx ((w.alloc (.cells #[.int .i64 0, .string ⟨#[]⟩, .int .i64 0] 101)).drewN (n + 1)) w.heap.size 101 #[.int .i64 0, .string ⟨#[]⟩, .int .i64 0] := Bx.new w _ _
    have hW : Below w.heap.size w ((w.alloc (.cells #[.int .i64 0, .string ⟨#[]⟩, .int .i64 0] 101)).drewN (n + 1)) := (Lx.below_box w _).trans ((below_drewN _ _).mono (by simp))
    exact bodyPost_ret (results_cell_row rfl _ _ w.heap.size 101 _ (0, 0) _ rfl (((hB.set 0 _).set 1 _).set 2 _) Tryz.underlying101 rfl (by kernel_rfl)) rfl ⟨rfl, ((hW.setCell (by simp) _).setCell (by simp) _).setCell (by simp) _⟩
  · have hx : nextW (L.drop a) = (0, [], 0) := by rw [drop_end L a (by omega)]; rfl
    rw [hx]
    have hd : decide (a = L.length) = true := by
      have := h.le
      simp; omega
    have HD : Hid (∀ o, Calls Tryz.prog 22 #[.pointer (some ⟨r, 0, none⟩)] (w.alloc o) fun e w' => e = .returned (.bool true) ∧ ∃ n, w' = (w.alloc o).drewN n) := fun o => by
      have := done_any (h.below (Lx.below_box w o))
      rw [hd] at this
      exact this
    clear h hd hx
    go_enter Tryz.func56, Tryz.ntmps56
    go_wp2_with fail
    refine (HD.out _).mono ?_
    rintro e w1 ⟨rfl, n, rfl⟩
    go_wp2_with fail
    have hB : Bx ((w.alloc (.cells #[.int .i64 0, .string ⟨#[]⟩, .int .i64 0] 101)).drewN n) w.heap.size 101 #[.int .i64 0, .string ⟨#[]⟩, .int .i64 0] := Bx.new w _ _
    have hW : Below w.heap.size w ((w.alloc (.cells #[.int .i64 0, .string ⟨#[]⟩, .int .i64 0] 101)).drewN n) := (Lx.below_box w _).trans ((below_drewN _ _).mono (by simp))
    exact bodyPost_ret (results_cell_row rfl _ _ w.heap.size 101 _ (0, 0) _ rfl (((hB.set 0 _).set 1 _).set 2 _) Tryz.underlying101 rfl (by kernel_rfl)) rfl ⟨rfl, ((hW.setCell (by simp) _).setCell (by simp) _).setCell (by simp) _⟩

/-- The fields of a word that is a value. -/
theorem fldW (k p : Int) (s : ByteArray) (W : World) : (Instr.field 101 (.agg #[.int .i64 k, .string s, .int .i64 p]) 1).run Tryz.prog W = .ok (.string s) W := by kernel_rfl
theorem fldK (k p : Int) (s : ByteArray) (W : World) : (Instr.field 101 (.agg #[.int .i64 k, .string s, .int .i64 p]) 0).run Tryz.prog W = .ok (.int .i64 k) W := by kernel_rfl

theorem beq_bytes (x s : List UInt8) : ((tx x).toList == (tx s).toList) = decide (x = s) := by
  rw [Bool.eq_iff_iff]
  simp [Lib.toList_data, tx]

set_option maxRecDepth 10000 in
theorem take_any {w : World} {r : Nat} {v : Value} {L : List Wd} {a : Nat} (s : List UInt8) (hs : s ≠ []) (h : Rd w r v L a) :
    Calls Tryz.prog 43 #[.pointer (some ⟨r, 0, none⟩), .string (tx s)] w fun e w' => e = .returned (.bool (takeB s (L.drop a))) ∧ ∃ a', Rd w' r v L a' ∧ L.drop a' = takeR s (L.drop a) ∧ a ≤ a' ∧ Fr (fun k => k = r) w w' := by
  have HN : Hid _ := next_any h
  by_cases ht : (nextW (L.drop a)).2.1 = s
  · have hlt : a < L.length := by
      by_cases hl : a < L.length
      · exact hl
      · rw [drop_end L a (by omega)] at ht
        exact absurd ht.symm hs
    have e1 : takeB s (L.drop a) = true := by simp [takeB, ht]
    have e2 : takeR s (L.drop a) = L.drop (a + 1) := by rw [takeR, if_pos e1, drop_tail]
    rw [e1, e2]
    have hb2 : ((tx (nextW (L.drop a)).2.1).toList == (tx s).toList) = true := by rw [beq_bytes]; simp [ht]
    have H : Hid _ := h
    clear e1 e2 ht h
    generalize nextW (L.drop a) = x at *
    go_enter Tryz.func43, Tryz.ntmps43
    go_wp2_with fail
    refine Calls.mono HN.out ?_
    rintro e w1 ⟨rfl, hb⟩
    simp only [wv]
    have hfw := fldW
    obtain ⟨c0, c1, c2⟩ := (H.out.below hb).cells
    go_wp2_with fail
    go_ret
    have hs := H.out.step hb hlt
    exact ⟨rfl, a + 1, hs.1, rfl, by omega, hs.2⟩
  · have e1 : takeB s (L.drop a) = false := by simp [takeB, ht]
    have e2 : takeR s (L.drop a) = L.drop a := by rw [takeR, if_neg (by rw [e1]; decide)]
    rw [e1, e2]
    have hb2 : ((tx (nextW (L.drop a)).2.1).toList == (tx s).toList) = false := by rw [beq_bytes]; simp [ht]
    have H : Hid _ := h
    clear e1 e2 ht h
    generalize nextW (L.drop a) = x at *
    go_enter Tryz.func43, Tryz.ntmps43
    go_wp2_with fail
    refine Calls.mono HN.out ?_
    rintro e w1 ⟨rfl, hb⟩
    simp only [wv]
    have hfw := fldW
    go_wp2_with fail
    go_ret
    exact ⟨rfl, a, H.out.below hb, rfl, Nat.le_refl _, Fr.of_below hb⟩

end Go.Proofs.YtcfhpodpkficaaaGreatDoor.Sy
namespace Go.Proofs.YtcfhpodpkficaaaGreatDoor.Sy
open Go.RowKit
open Lx (Wd tx cellsW)
open Vl (Tm Fr)

/-- What a word says as a constant, before it is asked whether it may be one. -/
def rawW (x : Wd) : Tm := if x.1 = 1 then (2, tx x.2.1, 0) else if x.1 = 3 then (3, ⟨#[]⟩, numOf x.2.1) else (0, ⟨#[]⟩, 0)
def mayM (t : Tm) : Bool := Vl.mayT t.1 t.2.1 t.2.2

theorem raw_const {x : Wd} (h : OkF x) : constW x = if mayM (rawW x) = true then some (rawW x) else none := by
  rcases h with h | rfl
  · by_cases h1 : x.1 = 1
    · have hw := ok_name h h1
      have e : mayM (rawW x) = true := by simp [mayM, rawW, h1, Vl.mayT, hw]
      rw [if_pos e]
      simp [constW, rawW, h1]
    · by_cases h3 : x.1 = 3
      · by_cases hr : -2147483648 ≤ numOf x.2.1 ∧ numOf x.2.1 ≤ 2147483648
        · have e : mayM (rawW x) = true := by simp [mayM, rawW, h3, Vl.mayT, hr, Lib.toList_data]
          rw [if_pos e]
          simp [constW, rawW, h3, hr]
        · have e : ¬ mayM (rawW x) = true := by
            simp [mayM, rawW, h3, Vl.mayT, Lib.toList_data]
            omega
          rw [if_neg e]
          simp [constW, h3, hr]
      · have e : ¬ mayM (rawW x) = true := by simp [mayM, rawW, h1, h3, Vl.mayT]
        rw [if_neg e]
        simp [constW, h1, h3]
  · have e : ¬ mayM (rawW (0, [], 0)) = true := by simp [mayM, rawW, Vl.mayT]
    rw [if_neg e]
    simp [constW]

theorem Bx.three {w : World} {b : Nat} {T : TypeId} {x y z : Value} (h : Bx w b T #[x, y, z]) : (w.cell? ⟨b, 0, none⟩ = some x ∧ w.cell? ⟨b, 1, none⟩ = some y ∧ w.cell? ⟨b, 2, none⟩ = some z) ∧ w.frozen? ⟨b, 0, none⟩ = false ∧ w.frozen? ⟨b, 1, none⟩ = false ∧ w.frozen? ⟨b, 2, none⟩ = false :=
  ⟨⟨h.c 0, h.c 1, h.c 2⟩, h.f 0, h.f 1, h.f 2⟩
def tvz : Value := .agg #[.int .i64 0, .string ⟨#[]⟩, .int .i64 0]
theorem sz53 : (Tryz.prog.info? 53).map (·.size) = some 3 := by kernel_rfl
theorem sz33 : (Tryz.prog.info? 33).map (·.size) = some 3 := by kernel_rfl
theorem sz101 : (Tryz.prog.info? 101).map (·.size) = some 3 := by kernel_rfl

theorem parse_any (x : Wd) (h : OkW x) (h3 : x.1 = 3) (w : World) :
    Calls Tryz.prog 70 #[.string (tx x.2.1), .int .i64 10, .int .i64 64] w fun e w' => e = .returned (.tuple #[.int .i64 (numOf x.2.1), .nilIface]) ∧ Below w.heap.size w w' := by
  have hs := h.len
  refine (Tryz.strconv_ParseInt_10_at64_ok (tx x.2.1) (by rw [Lx.tx_size]; omega) _ (ok_num h h3) w).mono ?_
  rintro e w' ⟨rfl, hw | ⟨t, hw⟩⟩
  · subst hw
    exact ⟨rfl, Below.refl _ _⟩
  · subst hw
    exact ⟨rfl, Lib.bytesWorld_below _ _ _⟩

set_option maxRecDepth 10000 in
theorem constantOf_any (x : Wd) (h : OkF x) (w : World) :
    Calls Tryz.prog 55 #[wv x] w fun e w' => e = .returned (Vl.tv (rawW x)) ∧ Below w.heap.size w w' := by
  by_cases h1 : x.1 = 1
  · have e : rawW x = (2, tx x.2.1, 0) := by simp [rawW, h1]
    rw [e]
    simp only [wv, h1]
    go_enter Tryz.func55, Tryz.ntmps55
    go_wp2_with fail
    exact bodyPost_ret (results_cell_row rfl _ _ (w.heap.size + 1) 53 _ (0, 0) _ rfl (heap_alloc2_new _ _ _) Tryz.underlying53 rfl sz53) rfl ⟨rfl, Vl.below_box2 _ _ _⟩
  · by_cases h3 : x.1 = 3
    · have e : rawW x = (3, ⟨#[]⟩, numOf x.2.1) := by simp [rawW, h3]
      rw [e]
      have hx : OkW x := h.resolve_right (fun e => by rw [e] at h3; cases h3)
      have HP : Hid (∀ W : World, _) := fun W => parse_any x hx h3 W
      simp only [wv, h3]
      clear e h1 h hx
      go_enter Tryz.func55, Tryz.ntmps55
      go_wp2_with fail
      refine Calls.mono (HP.out _) ?_
      rintro e w1 ⟨rfl, hb⟩
      have hB : Bx w1 (w.heap.size + 1) 53 #[.int .i64 0, .string ⟨#[]⟩, .int .i64 0] := Bx.below (heap_alloc2_new _ _ _) hb
      have hW : Below w.heap.size w w1 := (Vl.below_box2 w _ _).trans (hb.mono (by simp; omega))
      have c0 := hB.c 0
      have c1 := hB.c 1
      have c2 := hB.c 2
      have f0 := hB.f 0
      have f1 := hB.f 1
      have f2 := hB.f 2
      simp at c0 c1 c2
      go_wp2_with fail
      exact bodyPost_ret (results_cell_row rfl _ _ (w.heap.size + 1) 53 _ (0, 0) _ rfl (((hB.set 0 _).set 1 _).set 2 _) Tryz.underlying53 rfl sz53) rfl ⟨rfl, ((hW.setCell (by simp) _).setCell (by simp) _).setCell (by simp) _⟩
    · have e : rawW x = (0, ⟨#[]⟩, 0) := by simp [rawW, h1, h3]
      rw [e]
      have g1 : ((x.1 : Int) == 1) = false := by simp; omega
      have g3 : ((x.1 : Int) == 3) = false := by simp; omega
      simp only [wv]
      clear e h
      go_enter Tryz.func55, Tryz.ntmps55
      go_wp2_with fail
      exact bodyPost_ret (results_cell_row rfl _ _ (w.heap.size + 1) 53 _ (0, 0) _ rfl (heap_alloc2_new _ _ _) Tryz.underlying53 rfl sz53) rfl ⟨rfl, Vl.below_box2 _ _ _⟩

/-- A reader, seen from a world ahead. -/
structure Gg (w : World) (r : Nat) (v : Value) (L : List Wd) (a : Nat) (W : World) : Prop where
  rd : Rd W r v L a
  fr : Fr (fun k => k = r) w W
theorem Gg.refl {w : World} {r : Nat} {v : Value} {L : List Wd} {a : Nat} (h : Rd w r v L a) : Gg w r v L a w := ⟨h, Fr.refl _ _⟩
theorem Gg.below {w W W' : World} {r : Nat} {v : Value} {L : List Wd} {a : Nat} (h : Gg w r v L a W) (hb : Below W.heap.size W W') : Gg w r v L a W' :=
  ⟨h.rd.below hb, h.fr.trans (Fr.of_below (F := fun k => k = r) hb) (fun _ _ e => e)⟩
theorem Gg.alloc {w W : World} {r : Nat} {v : Value} {L : List Wd} {a : Nat} (h : Gg w r v L a W) (o : Obj) : Gg w r v L a (W.alloc o) := h.below (Lx.below_box W o)
theorem Gg.then {w W W' : World} {r : Nat} {v : Value} {L : List Wd} {a b : Nat} (h : Gg w r v L a W) (hr : Rd W' r v L b) (hf : Fr (fun k => k = r) W W') : Gg w r v L b W' :=
  ⟨hr, h.fr.trans hf (fun _ _ e => e)⟩
/-- A store into a block that was made since. -/
theorem Gg.put {w W : World} {r : Nat} {v : Value} {L : List Wd} {a0 a : Nat} (h : Gg w r v L a W) (h0 : Rd w r v L a0) (b i : Nat) (hb : w.heap.size ≤ b) (x : Value) : Gg w r v L a (W.setCell ⟨b, i, none⟩ x) := by
  have hlt := h0.lt
  have hf : Fr (fun k => k = r) w (W.setCell ⟨b, i, none⟩ x) := h.fr.setCell (p := ⟨b, i, none⟩) (fun hp => by
    have : b < w.heap.size := hp
    omega) x
  refine ⟨⟨?_, h0.kept hf h0.row (by decide), h.rd.le, h.rd.len⟩, hf⟩
  exact Bx.fr (w := W) (F := fun k => k = b) h.rd.box (Vl.Fr.one W b i x) (by omega)
theorem Gg.put3 {w W : World} {r : Nat} {v : Value} {L : List Wd} {a0 a : Nat} (h : Gg w r v L a W) (h0 : Rd w r v L a0) (b : Nat) (hb : w.heap.size ≤ b) (x y z : Value) : Gg w r v L a (((W.setCell ⟨b, 0, none⟩ x).setCell ⟨b, 1, none⟩ y).setCell ⟨b, 2, none⟩ z) :=
  (((h.put h0 b 0 hb x).put h0 b 1 hb y).put h0 b 2 hb z)
/-- A store of the next place. -/
theorem Gg.step {w W : World} {r : Nat} {v : Value} {L : List Wd} {a : Nat} (h : Gg w r v L a W) (hl : a < L.length) : Gg w r v L (a + 1) (W.setCell ⟨r, 1, none⟩ (.int .i64 (wrap64 ((a : Int) + 1)))) :=
  h.then (h.rd.step (Below.refl _ _) hl).1 (h.rd.step (Below.refl _ _) hl).2

/-- What a method of the reader that reads a thing gives. -/
def Out {α : Type} (enc : World → α → Value → Prop) (z : Value) (res : Re α) (r : Nat) (v : Value) (L : List Wd) (a : Nat) (w : World) (e : Ending) (w' : World) : Prop :=
  match res with
  | .error c => e = .returned (.tuple #[z, .int .i64 (if c = true then 8 else 4)]) ∧ Fr (fun k => k = r) w w'
  | .ok (x, rest) => ∃ y a', e = .returned (.tuple #[y, .int .i64 0]) ∧ enc w' x y ∧ Rd w' r v L a' ∧ L.drop a' = rest ∧ a < a' ∧ Fr (fun k => k = r) w w'
def isT (_ : World) (t : Tm) (y : Value) : Prop := y = Vl.tv t

theorem lt_of_next {L : List Wd} {a k : Nat} (hk : k ≠ 0) (h : (nextW (L.drop a)).1 = k) : a < L.length := by
  by_cases hl : a < L.length
  · exact hl
  · rw [drop_end L a (by omega)] at h
    exact absurd h.symm hk
theorem lt_of_may {L : List Wd} {a : Nat} (h : mayM (rawW (nextW (L.drop a))) = true) : a < L.length := by
  by_cases hl : a < L.length
  · exact hl
  · rw [drop_end L a (by omega)] at h
    simp [mayM, rawW, nextW, Vl.mayT] at h

set_option maxRecDepth 10000 in
theorem constant_any {w : World} {r : Nat} {v : Value} {L : List Wd} {a : Nat} (h : Rd w r v L a) (hL : ∀ x ∈ L, OkF x) :
    Calls Tryz.prog 36 #[.pointer (some ⟨r, 0, none⟩)] w fun e w' => Out isT tvz (constL (L.drop a)) r v L a w e w' := by
  have hok : OkF (nextW (L.drop a)) := next_okF fun x hx => hL x (List.mem_of_mem_drop hx)
  have hc := raw_const hok
  have HN : Hid (∀ o, Calls Tryz.prog 56 #[.pointer (some ⟨r, 0, none⟩)] (w.alloc o) fun e w' => e = .returned (wv (nextW (L.drop a))) ∧ Below (w.alloc o).heap.size (w.alloc o) w') := fun o => next_any (h.below (Lx.below_box w o))
  have HC : Hid (∀ W : World, _) := fun W => constantOf_any (nextW (L.drop a)) hok W
  have HM : Hid (∀ W : World, Calls Tryz.prog 57 #[Vl.tv (rawW (nextW (L.drop a)))] W fun e w' => e = .returned (.bool (mayM (rawW (nextW (L.drop a))))) ∧ Below W.heap.size W w') := fun W => Vl.may_any _ _ _ _
  have H : Hid _ := h
  have hlt := lt_of_may (L := L) (a := a)
  have hdt := drop_tail L a
  unfold constL oneL
  rw [hc, hdt]
  clear h hc hok hL hdt
  generalize nextW (L.drop a) = x at *
  generalize rawW x = t at *
  cases hm : mayM t
  all_goals (rw [hm] at HM hlt)
  · clear hlt
    simp only [Bool.false_eq_true, if_false]
    go_enter Tryz.func36, Tryz.ntmps36
    go_wp2_with fail
    refine Calls.mono (HN.out _) ?_
    rintro e w1 ⟨rfl, hb1⟩
    go_wp2_with fail
    refine Calls.mono (HC.out _) ?_
    rintro e w2 ⟨rfl, hb2⟩
    have hBa : Bx w2 w.heap.size 53 #[.int .i64 0, .string ⟨#[]⟩, .int .i64 0] := ((Bx.new w _ _).below hb1).below hb2
    have hWa : Below w.heap.size w w2 := ((Lx.below_box w _).trans (hb1.mono (by simp))).trans (hb2.mono (by have := hb1.size; simp at this; omega))
    simp only [Vl.tv]
    go_wp2_with fail
    refine Calls.mono (HM.out _) ?_
    rintro e w3 ⟨rfl, hb3⟩
    have hB : Bx w3 w.heap.size 53 #[.int .i64 0, .string ⟨#[]⟩, .int .i64 0] := (hBa.below (Lx.below_box w2 _)).below hb3
    have hW : Below w.heap.size w w3 := (hWa.trans ((Lx.below_box w2 _).mono hWa.size)).trans (hb3.mono (by have := hWa.size; simp; omega))
    obtain ⟨⟨c0, c1, c2⟩, f0, f1, f2⟩ := hB.three
    go_wp2_with fail
    refine bodyPost_ret (ret_cell rfl _ _ w.heap.size 53 _ rfl (((hB.set 0 _).set 1 _).set 2 _) Tryz.underlying53 sz53) rfl ?_
    exact ⟨rfl, Fr.of_below (((hW.setCell (by simp) _).setCell (by simp) _).setCell (by simp) _)⟩
  · have hlt' := hlt rfl
    clear hlt
    simp only [if_true]
    go_enter Tryz.func36, Tryz.ntmps36
    go_wp2_with fail
    refine Calls.mono (HN.out _) ?_
    rintro e w1 ⟨rfl, hb1⟩
    go_wp2_with fail
    refine Calls.mono (HC.out _) ?_
    rintro e w2 ⟨rfl, hb2⟩
    have hBa : Bx w2 w.heap.size 53 #[.int .i64 0, .string ⟨#[]⟩, .int .i64 0] := ((Bx.new w _ _).below hb1).below hb2
    have hWa : Below w.heap.size w w2 := ((Lx.below_box w _).trans (hb1.mono (by simp))).trans (hb2.mono (by have := hb1.size; simp at this; omega))
    simp only [Vl.tv]
    go_wp2_with fail
    refine Calls.mono (HM.out _) ?_
    rintro e w3 ⟨rfl, hb3⟩
    have hB : Bx w3 w.heap.size 53 #[.int .i64 0, .string ⟨#[]⟩, .int .i64 0] := (hBa.below (Lx.below_box w2 _)).below hb3
    have hW : Below w.heap.size w w3 := (hWa.trans ((Lx.below_box w2 _).mono hWa.size)).trans (hb3.mono (by have := hWa.size; simp; omega))
    have hT : Bx w3 w2.heap.size 53 #[.int .i64 t.1, .string t.2.1, .int .i64 t.2.2] := (Bx.new w2 _ _).below hb3
    have hr := (H.out.below hW).cells
    have hst := H.out.step hW hlt'
    have hne : ¬ w.heap.size = r := by have := H.out.lt; omega
    have hne2 : ¬ w2.heap.size = r := by have := H.out.lt; have := hWa.size; omega
    have hB4 := hB.fr (Vl.Fr.one w3 r 1 (.int .i64 (wrap64 ((a : Int) + 1)))) hne
    have hT4 := hT.fr (Vl.Fr.one w3 r 1 (.int .i64 (wrap64 ((a : Int) + 1)))) hne2
    obtain ⟨r0, r1, r2⟩ := hr
    clear HN HC HM hb1 hb2 hb3 hWa hBa
    obtain ⟨⟨c0, c1, c2⟩, f0, f1, f2⟩ := hB4.three
    obtain ⟨⟨d0, d1, d2⟩, _, _, _⟩ := hT4.three
    go_wp2_with fail
    refine bodyPost_ret (ret_cell rfl _ _ w.heap.size 53 _ rfl (((hB4.set 0 _).set 1 _).set 2 _) Tryz.underlying53 sz53) rfl ?_
    have q1 := Gg.put3 (⟨hst.1, hst.2⟩ : Gg w r v L (a + 1) _) H.out w.heap.size (Nat.le_refl _) (.int .i64 t.1) (.string t.2.1) (.int .i64 t.2.2)
    exact ⟨_, a + 1, rfl, rfl, q1.rd, rfl, by omega, q1.fr⟩

/-- What a method that reads one term gives. -/
def TermF (f : FuncId) (g : Wd → Option Tm) : Prop := ∀ {w : World} {r : Nat} {v : Value} {L : List Wd} {a : Nat}, Rd w r v L a → (∀ x ∈ L, OkF x) → Calls Tryz.prog f #[.pointer (some ⟨r, 0, none⟩)] w fun e w' => Out isT tvz (oneL g (L.drop a)) r v L a w e w'

theorem constant_f : TermF 36 constW := fun h hL => constant_any h hL

set_option maxRecDepth 10000 in
theorem term_f : TermF 37 termW := by
  intro w r v L a h hL
  have HN : Hid (∀ o, Calls Tryz.prog 56 #[.pointer (some ⟨r, 0, none⟩)] (w.alloc o) fun e w' => e = .returned (wv (nextW (L.drop a))) ∧ Below (w.alloc o).heap.size (w.alloc o) w') := fun o => next_any (h.below (Lx.below_box w o))
  have H : Hid _ := h
  by_cases h2 : (nextW (L.drop a)).1 = 2
  · have hlt : a < L.length := lt_of_next (by decide) h2
    have e : oneL termW (L.drop a) = .ok ((1, tx (nextW (L.drop a)).2.1, 0), L.drop (a + 1)) := by rw [oneL, termW, if_pos h2, drop_tail]
    rw [e]
    clear e h hL
    generalize nextW (L.drop a) = x at *
    simp only [wv, h2] at HN
    go_enter Tryz.func37, Tryz.ntmps37
    go_wp2_with fail
    refine Calls.mono (HN.out _) ?_
    rintro e w1 ⟨rfl, hb1⟩
    have G1 : Gg w r v L a w1 := ((Gg.refl H.out).alloc _).below hb1
    have hs1 := hb1.size
    simp at hs1
    have hrlt := H.out.lt
    have hB : Bx w1 w.heap.size 53 #[.int .i64 0, .string ⟨#[]⟩, .int .i64 0] := (Bx.new w _ _).below hb1
    have r1 := fun o => (G1.alloc o).rd.cells.2.1
    have r2 := fun o => (G1.alloc o).rd.cells.2.2
    have G2 := fun o => (G1.alloc o).step hlt
    have hB2 := fun o => (hB.below (Lx.below_box w1 o)).fr (Vl.Fr.one (w1.alloc o) r 1 (.int .i64 (wrap64 ((a : Int) + 1)))) (by omega)
    have c0 := fun o => (hB2 o).three.1.1
    have c1 := fun o => (hB2 o).three.1.2.1
    have c2 := fun o => (hB2 o).three.1.2.2
    have f0 := fun o => (hB2 o).three.2.1
    have f1 := fun o => (hB2 o).three.2.2.1
    have f2 := fun o => (hB2 o).three.2.2.2
    clear HN hb1 hB
    go_wp2_with fail
    refine bodyPost_ret (ret_cell rfl _ _ w.heap.size 53 _ rfl ((((hB2 _).set 0 _).set 1 _).set 2 _) Tryz.underlying53 sz53) rfl ?_
    have q1 := (G2 (.cells #[.int .i64 2, .string (tx x.2.1), .int .i64 (x.2.2 : Int)] 101)).put3 H.out w.heap.size (Nat.le_refl _) (.int .i64 1) (.string (tx x.2.1)) (.int .i64 0)
    exact ⟨_, a + 1, rfl, rfl, q1.rd, rfl, by omega, q1.fr⟩
  · have g2 : (((nextW (L.drop a)).1 : Int) == 2) = false := by simp; omega
    have e : oneL termW (L.drop a) = constL (L.drop a) := by rw [constL, oneL, oneL, termW, if_neg h2]
    rw [e]
    have HC : Hid (∀ W : World, Rd W r v L a → Calls Tryz.prog 36 #[.pointer (some ⟨r, 0, none⟩)] W fun e w' => Out isT tvz (constL (L.drop a)) r v L a W e w') := fun W hW => constant_any hW hL
    clear e h hL h2
    generalize constL (L.drop a) = R at *
    generalize nextW (L.drop a) = x at *
    simp only [wv] at HN
    go_enter Tryz.func37, Tryz.ntmps37
    go_wp2_with fail
    refine Calls.mono (HN.out _) ?_
    rintro e w1 ⟨rfl, hb1⟩
    have G1 : Gg w r v L a w1 := ((Gg.refl H.out).alloc _).below hb1
    have hs1 := hb1.size
    simp at hs1
    have hrlt := H.out.lt
    have hB : Bx w1 w.heap.size 53 #[.int .i64 0, .string ⟨#[]⟩, .int .i64 0] := (Bx.new w _ _).below hb1
    have HC1 : Hid (∀ o, Calls Tryz.prog 36 #[.pointer (some ⟨r, 0, none⟩)] (w1.alloc o) fun e w' => Out isT tvz R r v L a (w1.alloc o) e w') := fun o => HC.out _ (G1.alloc o).rd
    clear HC HN
    go_wp2_with fail
    refine Calls.mono (HC1.out _) ?_
    intro e w2 ho
    cases R with
    | error c =>
      obtain ⟨rfl, hf⟩ := ho
      have hB2 := (hB.below (Lx.below_box w1 (.cells #[.int .i64 (x.1 : Int), .string (tx x.2.1), .int .i64 (x.2.2 : Int)] 101))).fr hf (by omega)
      obtain ⟨⟨c0, c1, c2⟩, f0, f1, f2⟩ := hB2.three
      have F2 : Fr (fun k => k = r) w w2 := (G1.alloc _).fr.trans hf (fun _ _ e => e)
      simp only [tvz]
      clear HC1 hf
      go_wp2_with fail
      all_goals refine bodyPost_ret (ret_cell rfl _ _ w.heap.size 53 _ rfl (((hB2.set 0 _).set 1 _).set 2 _) Tryz.underlying53 sz53) rfl ?_
      all_goals exact ⟨rfl, (((F2.setCell (p := ⟨w.heap.size, 0, none⟩) (fun h => absurd h (Nat.lt_irrefl _)) _).setCell (p := ⟨w.heap.size, 1, none⟩) (fun h => absurd h (Nat.lt_irrefl _)) _).setCell (p := ⟨w.heap.size, 2, none⟩) (fun h => absurd h (Nat.lt_irrefl _)) _)⟩
    | ok p =>
      obtain ⟨t, rest⟩ := p
      obtain ⟨y, a', rfl, hy, hr, hd, hlt, hf⟩ := ho
      have hy' : y = .agg #[.int .i64 t.1, .string t.2.1, .int .i64 t.2.2] := hy
      subst hy'
      have hB2 := (hB.below (Lx.below_box w1 (.cells #[.int .i64 (x.1 : Int), .string (tx x.2.1), .int .i64 (x.2.2 : Int)] 101))).fr hf (by omega)
      obtain ⟨⟨c0, c1, c2⟩, f0, f1, f2⟩ := hB2.three
      have G2 : Gg w r v L a' w2 := (G1.alloc _).then hr hf
      have HD : Hid _ := hd
      clear HC1 hf hd
      go_wp2_with fail
      refine bodyPost_ret (ret_cell rfl _ _ w.heap.size 53 _ rfl (((hB2.set 0 _).set 1 _).set 2 _) Tryz.underlying53 sz53) rfl ?_
      have q1 := G2.put3 H.out w.heap.size (Nat.le_refl _) (.int .i64 t.1) (.string t.2.1) (.int .i64 t.2.2)
      exact ⟨_, a', rfl, rfl, q1.rd, HD.out, hlt, q1.fr⟩
end Go.Proofs.YtcfhpodpkficaaaGreatDoor.Sy

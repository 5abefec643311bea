/- The walks of May, Less, Eq and of the reference's own; Cut. A term as a value. What a call may turn, laws on worlds alone; a step law for 'append'. Numbers in decimal: the reference's dec; Print, both. -/
import Derived.Test.YtienpejlfjhnmaaPart03
import Derived.Maps.AppendAt
import Derived.Deep.RegionLaw
import Derived.Laws.AppendOwnNone
import Derived.Laws.BytesArg
namespace Go.Proofs.Ytienpejlfjhnmaa.Vl
open Go.RowKit

/-- May a term be a constant? -/
def mayT (k : Int) (s : ByteArray) (n : Int) : Bool :=
  if k = 3 then s.toList.isEmpty && decide (-2147483648 ≤ n) && decide (n ≤ 2147483648)
  else if k = 2 then decide (n = 0) && wordS s else false

theorem below_box (w : World) (o : Obj) : Below w.heap.size w (w.alloc o) := (Below.refl _ _).alloc (Nat.le_refl _) o
theorem below_box2 (w : World) (o o' : Obj) : Below w.heap.size w ((w.alloc o).alloc o') := (below_box w o).alloc (by simp) o'

/-- How two constants are ordered; whether they are one. -/
def lessT (k : Int) (s : ByteArray) (x : Int) (k' : Int) (s' : ByteArray) (y : Int) : Bool :=
  if k = 3 then (if k' = 3 then decide (x < y) else true) else if k' = 3 then false else Op.bytesLess s.toList s'.toList
def eqT (k : Int) (s : ByteArray) (x : Int) (k' : Int) (s' : ByteArray) (y : Int) : Bool := decide (k = k') && decide (s.toList = s'.toList) && decide (x = y)

/-- A string's first bytes. -/
def cutS (s : ByteArray) (n : Nat) : ByteArray := if n < s.size then s.extract 0 n else s

set_option maxHeartbeats 1000000 in
theorem cutS_any (s : ByteArray) (n : Nat) (w : World) :
    Calls Try.prog 16 #[.string s, .int .i64 (n : Int)] w fun e w' => e = .returned (.string (cutS s n)) ∧ w' = w := by
  go_enter Try.func16, Try.ntmps16
  go_wp2
  all_goals go_ret
  · rename_i h
    rw [cutS, if_pos h]
    exact ⟨rfl, rfl⟩
  · rename_i h
    rw [cutS, if_neg h]
    exact ⟨rfl, rfl⟩

end Go.Proofs.Ytienpejlfjhnmaa.Vl
namespace Go.Proofs.Ytienpejlfjhnmaa.Vl
open Go.RowKit

theorem run_equal23 (k k' x y : Int) (s s' : ByteArray) (w : World) :
    (Op.equal 46 (.agg #[.int .i64 k, .string s, .int .i64 x]) (.agg #[.int .i64 k', .string s', .int .i64 y])).run Try.prog w = .ok (eqT k s x k' s' y) w := by
  unfold Op.equal Op.maxDepth
  by_cases h1 : k = k' <;> by_cases h2 : s.toList = s'.toList <;> by_cases h3 : x = y <;> simp [eqT, h1, h2, h3, go_sem]

abbrev Tm := Int × ByteArray × Int
/-- A term as a value, as cells. -/
def tv (t : Tm) : Value := .agg #[.int .i64 t.1, .string t.2.1, .int .i64 t.2.2]
def eqM (a b : Tm) : Bool := eqT a.1 a.2.1 a.2.2 b.1 b.2.1 b.2.2

end Go.Proofs.Ytienpejlfjhnmaa.Vl
namespace Go.Proofs.Ytienpejlfjhnmaa.Vl
open Go.RowKit

/-- What a call may have turned: blocks of F alone, and new ones. -/
structure Fr (F : Nat → Prop) (w w' : World) : Prop where
  os : w'.os = w.os
  tape : w'.tape = w.tape
  output : w'.output = w.output
  size : w.heap.size ≤ w'.heap.size
  block : ∀ k, k < w.heap.size → ¬ F k → w'.heap[k]? = w.heap[k]?

theorem Fr.refl (F : Nat → Prop) (w : World) : Fr F w w := ⟨rfl, rfl, rfl, Nat.le_refl _, fun _ _ _ => rfl⟩
theorem Fr.trans {F G : Nat → Prop} {a b c : World} (h : Fr F a b) (k : Fr G b c) (hg : ∀ x, x < a.heap.size → G x → F x) : Fr F a c :=
  ⟨k.os.trans h.os, k.tape.trans h.tape, k.output.trans h.output, Nat.le_trans h.size k.size, fun i hi hF => (k.block i (Nat.lt_of_lt_of_le hi h.size) (fun hG => hF (hg i hi hG))).trans (h.block i hi hF)⟩
theorem Fr.mono {F G : Nat → Prop} {a b : World} (h : Fr F a b) (hg : ∀ x, x < a.heap.size → F x → G x) : Fr G a b :=
  ⟨h.os, h.tape, h.output, h.size, fun i hi hG => h.block i hi (fun hF => hG (hg i hi hF))⟩
theorem Fr.of_below {F : Nat → Prop} {w w' : World} (h : Below w.heap.size w w') : Fr F w w' := ⟨h.os, h.tape, h.output, h.size, fun k hk _ => h.block k hk⟩
theorem Fr.below {F : Nat → Prop} {w w' : World} {B : Nat} (h : Fr F w w') (hF : ∀ k, F k → B ≤ k) (hB : B ≤ w.heap.size) : Below B w w' :=
  ⟨h.os, h.tape, h.output, h.size, fun k hk => h.block k (by omega) (fun hk' => by have := hF k hk'; omega)⟩
theorem Fr.of_grown {F : Nat → Prop} {w w' : World} {row : Option Nat} (h : w.grownBy w' row) (hr : ∀ k, row = some k → F k) : Fr F w w' :=
  ⟨h.os, h.tape, h.output, h.size, fun k hk hF => h.block k hk (fun e => hF (hr k e.symm))⟩
theorem Fr.alloc {F : Nat → Prop} {a w : World} (h : Fr F a w) (o : Obj) : Fr F a (w.alloc o) :=
  h.trans (G := F) (Fr.of_below ((Below.refl _ _).alloc (Nat.le_refl _) o)) (fun _ _ h => h)
theorem Fr.drew {F : Nat → Prop} {a w : World} (h : Fr F a w) : Fr F a w.drew := ⟨h.os, h.tape, h.output, h.size, h.block⟩
theorem Fr.setCell {F : Nat → Prop} {a w : World} (h : Fr F a w) {p : Addr} (hp : p.block < a.heap.size → F p.block) (u : Value) : Fr F a (w.setCell p u) :=
  h.trans (G := fun k => k = p.block) ⟨rfl, rfl, rfl, by simp [World.setCell], fun k _ hk => Below.heap_setCell _ _ _ _ hk⟩ (fun _ hx e => by rw [e] at hx ⊢; exact hp hx)
theorem Fr.cell {F : Nat → Prop} {w w' : World} (h : Fr F w w') {p : Addr} {u : Value} (hc : w.cell? p = some u) (hp : ¬ F p.block) : w'.cell? p = some u :=
  (World.cell?_of_block (h.block p.block (World.block_lt_of_cell? w p hc) hp)).trans hc

/-- What was F's, and what is new. -/
def ext (F : Nat → Prop) (w w' : World) : Nat → Prop := fun k => F k ∨ (w.heap.size ≤ k ∧ k < w'.heap.size)

theorem own_kept {F : Nat → Prop} {w w' : World} {base e size n : Nat} {v : Value} {xs : List Value} (h : w.ownsRow base e size v n xs) (hf : Fr F w w') (hn : ∀ k, v.ownBlock = some k → ¬ F k) : w'.ownsRow base e size v n xs := by
  refine ⟨h.1, ?_⟩
  rcases h.2 with hn' | ⟨g, cap, cur, rfl, hb, hgg, rest⟩
  · exact .inl hn'
  · refine .inr ⟨g, cap, cur, rfl, hb, ?_, rest⟩
    rw [hf.block g (Array.getElem?_eq_some_iff.1 hgg).1 (hn g rfl)]
    exact hgg
theorem own_base {w : World} {base base' e size n : Nat} {v : Value} {xs : List Value} (h : w.ownsRow base e size v n xs) (hb : ∀ k, v.ownBlock = some k → base' ≤ k) : w.ownsRow base' e size v n xs := by
  refine ⟨h.1, ?_⟩
  rcases h.2 with hn' | ⟨g, cap, cur, rfl, _, rest⟩
  · exact .inl hn'
  · exact .inr ⟨g, cap, cur, rfl, hb g rfl, rest⟩
theorem own_zero {w : World} {base e size n : Nat} {v : Value} {xs : List Value} (h : w.ownsRow base e size v n xs) : w.ownsRow 0 e size v n xs := own_base h fun _ _ => Nat.zero_le _
theorem own_ne {w : World} {b b' e e' s s' n n' : Nat} {v v' : Value} {xs xs' : List Value} (h : w.ownsRow b e s v n xs) (h' : w.ownsRow b' e' s' v' n' xs') (he : e ≠ e') {k : Nat} (hk : v.ownBlock = some k) : v'.ownBlock ≠ some k := by
  intro hk'
  rcases h.2 with ⟨rfl, _⟩ | ⟨g, cap, cur, rfl, _, hg, _⟩
  · simp [Value.ownBlock] at hk
  · rcases h'.2 with ⟨rfl, _⟩ | ⟨g', cap', cur', rfl, _, hg', _⟩
    · simp [Value.ownBlock] at hk'
    · simp [Value.ownBlock] at hk hk'
      subst hk hk'
      rw [hg] at hg'
      simp at hg'
      exact he hg'.2
theorem own_shape {w : World} {b e s n : Nat} {v : Value} {xs : List Value} (h : w.ownsRow b e s v n xs) : (v = .slice none 0 0 ∧ n = 0) ∨ ∃ g cap, v = .slice (some ⟨g, 0, none⟩) n cap ∧ n ≤ cap ∧ cap ≤ maxLen ∧ g < w.heap.size := by
  rcases h.2 with h | ⟨g, cap, cur, rfl, _, hg, h1, h2, _⟩
  · exact .inl h
  · exact .inr ⟨g, cap, rfl, h1, h2, (Array.getElem?_eq_some_iff.1 hg).1⟩

theorem heap_set {w : World} {b o : Nat} {cs : Array Value} {T : TypeId} {fr : Nat × Nat} (hb : w.heap[b]? = some (.cells cs T fr)) (v : Value) : (w.setCell ⟨b, o, none⟩ v).heap[b]? = some (.cells (cs.setIfInBounds o v) T fr) := by
  simp [World.setCell, Array.getElem?_modify, hb]
theorem setCell_self {w : World} {b o : Nat} {v : Value} (h : w.cell? ⟨b, o, none⟩ = some v) (k : Nat) : (w.setCell ⟨b, o, none⟩ v).heap[k]? = w.heap[k]? := by
  by_cases hk : k = b
  · subst hk
    cases hb : w.heap[k]? with
    | none => simp [World.cell?, hb] at h
    | some ob =>
      cases ob with
      | cells cs T fr =>
        rw [heap_set hb]
        have hv : cs[o]? = some v := by simpa [World.cell?, hb] using h
        have : cs.setIfInBounds o v = cs := by
          apply Array.ext_getElem?
          intro i
          rw [Array.getElem?_setIfInBounds]
          split
          · subst_vars
            obtain ⟨h1, h2⟩ := Array.getElem?_eq_some_iff.1 hv
            simp [h1, h2]
          · rfl
        rw [this]
      | _ => simp [World.cell?, hb] at h
  · exact Below.heap_setCell _ _ _ _ hk
theorem Fr.of_self {F : Nat → Prop} {w w' : World} {b o : Nat} {v : Value} (h : w.cell? ⟨b, o, none⟩ = some v) (hf : Fr F w w') : Fr F (w.setCell ⟨b, o, none⟩ v) w' :=
  ⟨hf.os, hf.tape, hf.output, by simpa [World.setCell] using hf.size, fun k hk hF => by rw [setCell_self h]; exact hf.block k (by simpa [World.setCell] using hk) hF⟩

theorem own_one {w : World} {b e s n : Nat} {v : Value} {xs : List Value} (h : w.ownsRow b e s v n xs) : v.oneCell' = true := by
  rcases own_shape h with ⟨rfl, _⟩ | ⟨g, cap, rfl, _⟩ <;> rfl
theorem own_slice {w : World} {b e s n : Nat} {v : Value} {xs : List Value} (h : w.ownsRow b e s v n xs) : ∃ ao L cap, v = .slice ao L cap := by
  rcases own_shape h with ⟨rfl, _⟩ | ⟨g, cap, rfl, _⟩ <;> exact ⟨_, _, _, rfl⟩
theorem ext_lt {F : Nat → Prop} {w w' : World} (hF : ∀ k, F k → k < w.heap.size) (hs : w.heap.size ≤ w'.heap.size) : ∀ k, ext F w w' k → k < w'.heap.size := by
  intro k hk
  rcases hk with hk | hk
  · have := hF k hk; omega
  · exact hk.2
theorem Fr.frozen {F : Nat → Prop} {w w' : World} (h : Fr F w w') {p : Addr} {u : Value} (hc : w.cell? p = some u) (hp : ¬ F p.block) : w'.frozen? p = w.frozen? p :=
  World.frozen?_of_block (h.block p.block (World.block_lt_of_cell? w p hc) hp)
theorem setCell_size (w : World) (a : Addr) (u : Value) : (w.setCell a u).heap.size = w.heap.size := by simp [World.setCell]
theorem Fr.one (w : World) (b o : Nat) (u : Value) : Fr (fun k => k = b) w (w.setCell ⟨b, o, none⟩ u) := Fr.setCell (p := ⟨b, o, none⟩) (Fr.refl (fun k => k = b) w) (fun _ => rfl) u
theorem step_append_run {P : Program} {ops : Array Oper} {o : Oper} {a : Act} {w : World} {K : Act → World → Prop} {Q : Exit → Act → World → Prop} {E : Prop}
    (hg : o.guard = none) (d x : Operand) (dT sT : TypeId) (hop : o.op = Op.call { callee := Callee.builtin Builtin.append, args := #[d, x], argTypes := #[dT, sT] })
    (v u : Value) (hd : a.eval d = v) (hx : a.eval x = u) {v' : Value} {w' : World} (hr : (Builtin.append_ #[dT, sT] o.type #[v, u]).run P w = .ok v' w') (hK : K (a.put o.dst v') w') :
    if Region.wanted o (yielded ops a.tmps) = true then Oper.wp P o a w K Q else E := by
  have hw : Region.wanted o (yielded ops a.tmps) = true := by simp [Region.wanted, hg]
  rw [if_pos hw]
  unfold Oper.wp
  simp [execOp, hop, resolve, invoke, builtin, hd, hx, hr, Result.andThen]
  exact hK
end Go.Proofs.Ytienpejlfjhnmaa.Vl
namespace Go.Proofs.Ytienpejlfjhnmaa.Vl
open Go.RowKit
set_option maxRecDepth 4000

/-- The digits of a number; none of 0. -/
def dg (u : Nat) : List UInt8 := if u = 0 then [] else Lib.decDigits u
theorem dg_step (u : Nat) (h : u ≠ 0) : dg u = dg (u / 10) ++ [UInt8.ofNat (48 + u % 10)] := by
  unfold dg
  rw [if_neg h]
  conv => lhs; rw [Lib.decDigits]
  split
  · rename_i h1
    rw [if_pos (by omega), Nat.mod_eq_of_lt h1]
    rfl
  · rename_i h1
    rw [if_neg (by omega)]

theorem dg_len : ∀ (k u : Nat), u < 10 ^ k → (dg u).length ≤ k
  | 0, u, h => by
    have : u = 0 := by simpa using h
    simp [dg, this]
  | k + 1, u, h => by
    by_cases hu : u = 0
    · simp [dg, hu]
    · rw [dg_step u hu, List.length_append]
      have := dg_len k (u / 10) (by rw [Nat.pow_succ] at h; omega)
      simp
      omega

theorem conv_digit (d : Nat) (hd : d ≤ 9) : ∃ ds : ByteArray, Hid (ds.data.toList = [UInt8.ofNat (48 + d)]) ∧ ds.size = 1 ∧ ∀ (W : World),
    (convert 47 9 (.slice (some ⟨W.heap.size, 0, none⟩) 1 1)).run Try.prog (W.alloc (.cells #[.int .u8 (48 + (d : Int))] 5)) = .ok (.string ds) (W.alloc (.cells #[.int .u8 (48 + (d : Int))] 5)) := by
  refine ⟨⟨#[UInt8.ofNat (48 + d)]⟩, rfl, rfl, fun W => ?_⟩
  have h := run_convert_bytes_back (P := Try.prog) (W.alloc (.cells #[.int .u8 (48 + (d : Int))] 5)) 47 9 5 ⟨W.heap.size, 0, none⟩ 1 [UInt8.ofNat (48 + d)] Try.underlying47 Try.underlying5 Try.underlying9 (fun j hj => by
    have hj0 : j = 0 := by simpa using hj
    subst hj0
    rw [Addr.add_lit, Nat.zero_add, cell_of_row _ W.heap.size 0 _ _ _ (heap_alloc_new _ _)]
    have : (UInt8.ofNat (48 + d)).toNat = 48 + d := by
      rw [UInt8.toNat_ofNat']
      omega
    simp only [List.getElem_cons_zero, this]
    rfl)
  exact h

theorem tmod_neg (kk : Int) (h : kk < 0) : kk.tmod 10 = -((kk.natAbs % 10 : Nat) : Int) ∧ kk.tdiv 10 = -((kk.natAbs / 10 : Nat) : Int) := by
  obtain ⟨m, rfl⟩ : ∃ m : Nat, kk = -(m : Int) := ⟨kk.natAbs, by omega⟩
  rw [Int.neg_tmod, Int.neg_tdiv]
  have h1 : (-(m : Int)).natAbs = m := by omega
  rw [h1]
  exact ⟨rfl, rfl⟩
theorem tmod_pos (kk : Int) (h : ¬ kk < 0) : kk.tmod 10 = ((kk.natAbs % 10 : Nat) : Int) ∧ kk.tdiv 10 = ((kk.natAbs / 10 : Nat) : Int) := by
  obtain ⟨m, rfl⟩ : ∃ m : Nat, kk = (m : Int) := ⟨kk.natAbs, by omega⟩
  have h1 : (m : Int).natAbs = m := by omega
  rw [h1]
  exact ⟨rfl, rfl⟩
theorem itoa_dg (n : Int) (hn : n ≠ 0) : Lib.itoa n = if n < 0 then 45 :: dg n.natAbs else dg n.natAbs := by
  have hd : dg n.natAbs = Lib.decDigits n.natAbs := by unfold dg; rw [if_neg (by omega)]
  rw [hd]
  unfold Lib.itoa
  split
  · rfl
  · rw [show n.toNat = n.natAbs by omega]
theorem bytes_ext {a b : ByteArray} (h : a.data.toList = b.data.toList) : a = b := by
  cases a
  cases b
  simp at h
  rw [h]
theorem ret_str {a b : ByteArray} (h : a = b) : Ending.returned (.string a) = Ending.returned (.string b) := by rw [h]
theorem bytes_app (a b : ByteArray) : (a ++ b).data.toList = a.data.toList ++ b.data.toList := by simp
theorem size_list (a : ByteArray) : a.size = a.data.toList.length := by simp

end Go.Proofs.Ytienpejlfjhnmaa.Vl

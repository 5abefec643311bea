/- Numbers in decimal: the reference's dec; Print, both. A table in memory; the walks of New, Len, Term and strings.Clone. The walks of Print, Fact, and of the reference's Print and Atom. The walk of the reference's Atom. The walk of Fact. -/
import Derived.Test.YtdmhajeaphnebaaPart03
import Derived.Lib.AppendIntMem
import Derived.Laws.MakeOwn
import Derived.Deep.RegionHeld
namespace Go.Proofs.Ytdmhajeaphnebaa.Vl
open Go.RowKit
set_option maxRecDepth 4000

/-- The digits of a number; none of 0. -/
def dg (u : Nat) : List UInt8 := if u = 0 then [] else Lib.decDigits u
theorem dg_step (u : Nat) (h : u ≠ 0) : dg u = dg (u / 10) ++ [UInt8.ofNat (48 + u % 10)] := by
  unfold dg
  rw [if_neg h]
  conv => lhs; rw [Lib.decDigits]
  split
  · rename_i h1
    rw [if_pos (by omega), Nat.mod_eq_of_lt h1]
    rfl
  · rename_i h1
    rw [if_neg (by omega)]

theorem dg_len : ∀ (k u : Nat), u < 10 ^ k → (dg u).length ≤ k
  | 0, u, h => by
    have : u = 0 := by simpa using h
    simp [dg, this]
  | k + 1, u, h => by
    by_cases hu : u = 0
    · simp [dg, hu]
    · rw [dg_step u hu, List.length_append]
      have := dg_len k (u / 10) (by rw [Nat.pow_succ] at h; omega)
      simp
      omega

theorem conv_digit (d : Nat) (hd : d ≤ 9) : ∃ ds : ByteArray, Hid (ds.data.toList = [UInt8.ofNat (48 + d)]) ∧ ds.size = 1 ∧ ∀ (W : World),
    (convert 63 9 (.slice (some ⟨W.heap.size, 0, none⟩) 1 1)).run Try.prog (W.alloc (.cells #[.int .u8 (48 + (d : Int))] 5)) = .ok (.string ds) (W.alloc (.cells #[.int .u8 (48 + (d : Int))] 5)) := by
  refine ⟨⟨#[UInt8.ofNat (48 + d)]⟩, rfl, rfl, fun W => ?_⟩
  have h := run_convert_bytes_back (P := Try.prog) (W.alloc (.cells #[.int .u8 (48 + (d : Int))] 5)) 63 9 5 ⟨W.heap.size, 0, none⟩ 1 [UInt8.ofNat (48 + d)] Try.underlying63 Try.underlying5 Try.underlying9 (fun j hj => by
    have hj0 : j = 0 := by simpa using hj
    subst hj0
    rw [Addr.add_lit, Nat.zero_add, cell_of_row _ W.heap.size 0 _ _ _ (heap_alloc_new _ _)]
    have : (UInt8.ofNat (48 + d)).toNat = 48 + d := by
      rw [UInt8.toNat_ofNat']
      omega
    simp only [List.getElem_cons_zero, this]
    rfl)
  exact h

theorem tmod_neg (kk : Int) (h : kk < 0) : kk.tmod 10 = -((kk.natAbs % 10 : Nat) : Int) ∧ kk.tdiv 10 = -((kk.natAbs / 10 : Nat) : Int) := by
  obtain ⟨m, rfl⟩ : ∃ m : Nat, kk = -(m : Int) := ⟨kk.natAbs, by omega⟩
  rw [Int.neg_tmod, Int.neg_tdiv]
  have h1 : (-(m : Int)).natAbs = m := by omega
  rw [h1]
  exact ⟨rfl, rfl⟩
theorem tmod_pos (kk : Int) (h : ¬ kk < 0) : kk.tmod 10 = ((kk.natAbs % 10 : Nat) : Int) ∧ kk.tdiv 10 = ((kk.natAbs / 10 : Nat) : Int) := by
  obtain ⟨m, rfl⟩ : ∃ m : Nat, kk = (m : Int) := ⟨kk.natAbs, by omega⟩
  have h1 : (m : Int).natAbs = m := by omega
  rw [h1]
  exact ⟨rfl, rfl⟩
theorem itoa_dg (n : Int) (hn : n ≠ 0) : Lib.itoa n = if n < 0 then 45 :: dg n.natAbs else dg n.natAbs := by
  have hd : dg n.natAbs = Lib.decDigits n.natAbs := by unfold dg; rw [if_neg (by omega)]
  rw [hd]
  unfold Lib.itoa
  split
  · rfl
  · rw [show n.toNat = n.natAbs by omega]
theorem bytes_ext {a b : ByteArray} (h : a.data.toList = b.data.toList) : a = b := by
  cases a
  cases b
  simp at h
  rw [h]
theorem ret_str {a b : ByteArray} (h : a = b) : Ending.returned (.string a) = Ending.returned (.string b) := by rw [h]
theorem bytes_app (a b : ByteArray) : (a ++ b).data.toList = a.data.toList ++ b.data.toList := by simp
theorem size_list (a : ByteArray) : a.size = a.data.toList.length := by simp

end Go.Proofs.Ytdmhajeaphnebaa.Vl
namespace Go.Proofs.Ytdmhajeaphnebaa.Vl
open Go.RowKit

def cellsT (L : List Tm) : List Value := L.flatMap fun t => [.int .i64 t.1, .string t.2.1, .int .i64 t.2.2]
theorem cellsT_len : ∀ L : List Tm, (cellsT L).length = L.length * 3
  | [] => rfl
  | t :: r => by
    have := cellsT_len r
    simp [cellsT] at this ⊢
    omega
theorem cellsT_append (a b : List Tm) : cellsT (a ++ b) = cellsT a ++ cellsT b := by simp [cellsT]
theorem cellsT_cons (t : Tm) (b : List Tm) : cellsT (t :: b) = .int .i64 t.1 :: .string t.2.1 :: .int .i64 t.2.2 :: cellsT b := by simp [cellsT]
theorem cellsT_get (L : List Tm) (i : Nat) (h : i < L.length) : (cellsT L)[i * 3]? = some (.int .i64 L[i].1) ∧ (cellsT L)[i * 3 + 1]? = some (.string L[i].2.1) ∧ (cellsT L)[i * 3 + 2]? = some (.int .i64 L[i].2.2) := by
  have e : L = L.take i ++ L[i] :: L.drop (i + 1) := by simp
  have hl : (cellsT (L.take i)).length = i * 3 := by rw [cellsT_len]; simp; omega
  have e2 : cellsT L = cellsT (L.take i) ++ (.int .i64 L[i].1 :: .string L[i].2.1 :: .int .i64 L[i].2.2 :: cellsT (L.drop (i + 1))) := by
    conv => lhs; rw [e]
    rw [cellsT_append, cellsT_cons]
  rw [e2]
  refine ⟨?_, ?_, ?_⟩
  · rw [List.getElem?_append_right (by omega), hl]; simp
  · rw [List.getElem?_append_right (by omega), hl, Nat.add_sub_cancel_left]; rfl
  · rw [List.getElem?_append_right (by omega), hl, Nat.add_sub_cancel_left]; rfl
theorem cellsT_one (L : List Tm) : ∀ u ∈ cellsT L, u.oneCell' = true := by
  intro u hu
  obtain ⟨t, _, hu⟩ := List.mem_flatMap.1 hu
  simp at hu
  rcases hu with rfl | rfl | rfl <;> rfl

end Go.Proofs.Ytdmhajeaphnebaa.Vl
namespace Go.Proofs.Ytdmhajeaphnebaa.Vl
open Go.RowKit

def Pow10 (w : World) : Prop := Lib.TabIs Try.prog w "internal/strconv.uint64pow10" .u64 Lib.pow10Tab
theorem Pow10.below {w w' : World} (h : Pow10 w) (hb : Below w.heap.size w w') : Pow10 w' := Lib.tabBelow_of_tabIs h w' hb
/-- What a number's print asks: it is small, or the powers of ten are laid. -/
def Fm (w : World) (n : Int) : Prop := (0 ≤ n ∧ n < 100) ∨ (Pow10 w ∧ -2147483648 ≤ n ∧ n ≤ 2147483648)
theorem Fm.below {w w' : World} {n : Int} (h : Fm w n) (hb : Below w.heap.size w w') : Fm w' n := by
  rcases h with h | ⟨h, h2⟩
  · exact .inl h
  · exact .inr ⟨h.below hb, h2⟩
/-- A constant's text. -/
def prt (t : Tm) : ByteArray := if t.1 = 3 then ⟨(Lib.itoa t.2.2).toArray⟩ else t.2.1

end Go.Proofs.Ytdmhajeaphnebaa.Vl
namespace Go.Proofs.Ytdmhajeaphnebaa.Vl
open Go.RowKit

/-- A slice of terms in memory. -/
def Ts (w : World) (v : Value) (L : List Tm) : Prop :=
  ∃ ao cap, v = .slice ao L.length cap ∧ L.length ≤ cap ∧ (0 < L.length → ∃ g off, ao = some ⟨g, off, none⟩ ∧ ∀ i (h : i < L.length), w.cell? ⟨g, off + i * 3, none⟩ = some (.int .i64 L[i].1) ∧ w.cell? ⟨g, off + i * 3 + 1, none⟩ = some (.string L[i].2.1) ∧ w.cell? ⟨g, off + i * 3 + 2, none⟩ = some (.int .i64 L[i].2.2))
theorem Ts.kept {w w' : World} {v : Value} {L : List Tm} (h : Ts w v L) {F : Nat → Prop} (hf : Fr F w w') (hn : ∀ a n c, v = .slice (some a) n c → ¬ F a.block) : Ts w' v L := by
  obtain ⟨ao, cap, rfl, h1, h2⟩ := h
  refine ⟨ao, cap, rfl, h1, fun hp => ?_⟩
  obtain ⟨g, off, rfl, hc⟩ := h2 hp
  refine ⟨g, off, rfl, fun i hi => ?_⟩
  have hF := hn _ _ _ rfl
  exact ⟨hf.cell (hc i hi).1 hF, hf.cell (hc i hi).2.1 hF, hf.cell (hc i hi).2.2 hF⟩
theorem Ts.below {w w' : World} {v : Value} {L : List Tm} (h : Ts w v L) (hb : Below w.heap.size w w') : Ts w' v L :=
  h.kept (F := fun _ => False) (Fr.of_below hb) (fun _ _ _ _ hf => hf)

def prtL (L : List Tm) : List (List UInt8) := L.map fun t => (prt t).data.toList
theorem join_snoc (xs : List (List UInt8)) (x sep : List UInt8) : Lib.join (xs ++ [x]) sep = if xs = [] then x else Lib.join xs sep ++ sep ++ x := by
  cases xs with
  | nil => simp [Lib.join_one]
  | cons y r =>
    rw [List.cons_append, Lib.join_cons, Lib.join_cons, if_neg (by simp)]
    simp [Lib.joinTail, List.append_assoc]
/-- The text of a name with terms. -/
def factL (name : ByteArray) (L : List Tm) : List UInt8 := if L = [] then name.data.toList else name.data.toList ++ [40] ++ Lib.join (prtL L) [44, 32] ++ [41]
def factS (name : ByteArray) (L : List Tm) : ByteArray := ⟨(factL name L).toArray⟩

theorem prtL_take (L : List Tm) (k : Nat) (h : k < L.length) : prtL (L.take (k + 1)) = prtL (L.take k) ++ [(prt L[k]).data.toList] := by
  unfold prtL
  rw [List.take_add_one, List.getElem?_eq_getElem h, List.map_append]
  rfl

end Go.Proofs.Ytdmhajeaphnebaa.Vl
namespace Go.Proofs.Ytdmhajeaphnebaa.Vl
open Go.RowKit

theorem Try.info9 : (Try.prog.info? 9).map (fun i => (i.zero, i.size, i.bytes)) = some (some (.string ⟨#[]⟩), 1, 16) := by kernel_rfl

/-- The row of texts, so many of them made. -/
def rowL (L : List Tm) (k : Nat) : List Value := (L.take k).map (fun t => .string (prt t)) ++ List.replicate (L.length - k) (.string ⟨#[]⟩)
theorem rowL_len (L : List Tm) (k : Nat) (h : k ≤ L.length) : (rowL L k).length = L.length := by simp [rowL]; omega
theorem rowL_set (L : List Tm) (k : Nat) (h : k < L.length) : (rowL L k).set k (.string (prt L[k])) = rowL L (k + 1) := by
  unfold rowL
  have hl : ((L.take k).map (fun t => Value.string (prt t))).length = k := by simp; omega
  rw [List.set_append_right _ _ (by omega), hl, Nat.sub_self]
  rw [show L.length - k = (L.length - (k + 1)) + 1 by omega, List.replicate_succ, List.set_cons_zero, List.take_add_one, List.getElem?_eq_getElem h, List.map_append, List.append_assoc]
  rfl
theorem made_row (L : List Tm) : madeCells (Value.string ⟨#[]⟩).cells L.length = (rowL L 0).toArray := by
  apply Array.ext'
  apply List.ext_getElem?
  intro j
  by_cases hj : j < L.length
  · simp [madeCells, rowL, hj, Value.cells, Nat.mod_one]
  · simp [madeCells, rowL, hj]

theorem make_row (L : List Tm) (hl : L.length ≤ 1000) (W : World) : (Instr.makeSlice 32 (.int .i64 (L.length : Int)) (.int .i64 (L.length : Int))).run Try.prog W = .ok (.slice (some ⟨W.heap.size, 0, none⟩) L.length L.length) (W.alloc (.cells (rowL L 0).toArray 9)) := by
  obtain ⟨i, hi, hz, hsize, hby⟩ := info_parts Try.info9
  have h := run_make (P := Try.prog) W 32 9 i (.string ⟨#[]⟩) Try.underlying32 hi hz .i64 .i64 (L.length : Int) (L.length : Int) (by omega) (by omega) (by rw [hby]; omega) (by omega)
  rw [hsize, Nat.mul_one] at h
  simp only [Int.toNat_natCast] at h
  rw [made_row] at h
  exact h

theorem tail_len (sep : List UInt8) (hs : sep.length = 2) : ∀ r : List (List UInt8), (∀ x ∈ r, x.length ≤ 1000) → (Lib.joinTail sep r).length ≤ 1002 * r.length
  | [], _ => by simp [Lib.joinTail]
  | x :: r, h => by
    have h1 := tail_len sep hs r (fun y hy => h y (by simp [hy]))
    have h2 := h x (by simp)
    simp [Lib.joinTail] at h1 ⊢
    omega
theorem join_len (L : List Tm) (hp : ∀ t ∈ L, (prt t).size ≤ 1000) : (Lib.join (prtL L) [44, 32]).length ≤ 1002 * L.length := by
  cases L with
  | nil => simp [prtL, Lib.join_nil]
  | cons t r =>
    rw [prtL, List.map_cons, Lib.join_cons, List.length_append]
    have h1 := tail_len [44, 32] rfl (r.map fun t => (prt t).data.toList) (fun x hx => by
      obtain ⟨u, hu, rfl⟩ := List.mem_map.1 hx
      have := hp u (by simp [hu])
      rw [size_list] at this
      exact this)
    have h2 := hp t (by simp)
    rw [size_list] at h2
    rw [List.length_map] at h1
    rw [List.length_cons]
    omega

end Go.Proofs.Ytdmhajeaphnebaa.Vl

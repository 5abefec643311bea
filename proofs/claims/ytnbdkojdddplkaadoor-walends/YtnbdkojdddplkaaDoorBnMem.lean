/- What a slice of bytes, a writer and a reader are in memory, and what keeps them: laws on worlds alone, no walk. -/
import Derived.Test.YtnbdkojdddplkaaDoorBnNum
import Derived.WalkKit
import Derived.Maps.AppendAt
import Derived.Laws.AppendOwnNone
import Derived.Laws.BytesArg
namespace Go.Proofs.YtnbdkojdddplkaaDoor.Bn
open Go.RowKit

def cells8 (bs : List UInt8) : List Value := bs.map fun b => .int .u8 (b.toNat : Int)
theorem cells8_len (bs : List UInt8) : (cells8 bs).length = bs.length := by simp [cells8]
theorem cells8_at (bs : List UInt8) (j : Nat) (h : j < bs.length) : (cells8 bs)[j]? = some (.int .u8 (at8 bs j)) := by
  simp [cells8, at8, List.getD, List.getElem?_eq_getElem h]
theorem cells8_one (bs : List UInt8) : ∀ u ∈ cells8 bs, u.oneCell' = true := by
  intro u hu
  obtain ⟨_, _, rfl⟩ := List.mem_map.1 hu
  rfl
theorem cells8_append (a b : List UInt8) : cells8 (a ++ b) = cells8 a ++ cells8 b := by simp [cells8]

/-- A slice value that reads as these bytes. -/
def Sl (w : World) (v : Value) (bs : List UInt8) : Prop :=
  ∃ ao cap, v = .slice ao bs.length cap ∧ bs.length ≤ cap ∧ cap ≤ maxLen ∧ (ao = none → cap = 0) ∧
    (0 < bs.length → ∃ g off, ao = some ⟨g, off, none⟩ ∧ ∀ j, j < bs.length → w.cell? ⟨g, off + j, none⟩ = some (.int .u8 (at8 bs j)))

theorem Sl.nil (w : World) : Sl w (.slice none 0 0) [] := ⟨none, 0, rfl, Nat.le_refl _, by simp [maxLen], fun _ => rfl, fun h => by simp at h⟩

theorem Sl.kept {w w' : World} {v : Value} {bs : List UInt8} (h : Sl w v bs) (hb : ∀ g o n, w.cell? ⟨g, o, none⟩ = some (.int .u8 n) → w'.heap[g]? = w.heap[g]?) : Sl w' v bs := by
  obtain ⟨ao, cap, hv, h1, h2, h3, h4⟩ := h
  refine ⟨ao, cap, hv, h1, h2, h3, fun hp => ?_⟩
  obtain ⟨g, off, ha, hc⟩ := h4 hp
  exact ⟨g, off, ha, fun j hj => (World.cell?_of_block (w := w) (a := ⟨g, off + j, none⟩) (hb g (off + j) _ (hc j hj))).trans (hc j hj)⟩

theorem cell_lt {w : World} {g o : Nat} {u : Value} (h : w.cell? ⟨g, o, none⟩ = some u) : g < w.heap.size := World.block_lt_of_cell? w ⟨g, o, none⟩ h

/-- What is below B stays, whatever is done from B on. -/
theorem Sl.below {w w' : World} {v : Value} {bs : List UInt8} (h : Sl w v bs) (hb : Below w.heap.size w w') : Sl w' v bs :=
  h.kept fun g _ _ hc => hb.block g (cell_lt hc)

theorem Sl.alloc {w : World} {v : Value} {bs : List UInt8} (h : Sl w v bs) (o : Obj) : Sl (w.alloc o) v bs :=
  h.below ((Below.refl _ _).alloc (Nat.le_refl _) o)

/-- The front of a slice. -/
theorem Sl.take {w : World} {ao : Option Addr} {len cap : Nat} {bs : List UInt8} (h : Sl w (.slice ao len cap) bs) (k : Nat) (hk : k ≤ len) : Sl w (.slice ao k cap) (bs.take k) := by
  obtain ⟨ao', cap', hv, h1, h2, h3, h4⟩ := h
  simp only [Value.slice.injEq] at hv
  obtain ⟨rfl, hl, rfl⟩ := hv
  have hlk : (bs.take k).length = k := by simp; omega
  refine ⟨ao, cap, by rw [hlk], by omega, h2, h3, fun hp => ?_⟩
  obtain ⟨g, off, ha, hc⟩ := h4 (by omega)
  refine ⟨g, off, ha, fun j hj => ?_⟩
  rw [hlk] at hj
  rw [hc j (by omega)]
  simp [at8, List.getD, hj]

/-- What is behind the front of a slice. -/
theorem Sl.drop {w : World} {ao : Option Addr} {len cap : Nat} {bs : List UInt8} (h : Sl w (.slice ao len cap) bs) (k : Nat) (hk : k ≤ len) (ao' : Option Addr) (hao : cap ≠ k → ao' = ao.map (·.add k)) (hz : cap = k → ao' = ao) :
    Sl w (.slice ao' (len - k) (cap - k)) (bs.drop k) := by
  obtain ⟨ao2, cap', hv, h1, h2, h3, h4⟩ := h
  simp only [Value.slice.injEq] at hv
  obtain ⟨rfl, hl, rfl⟩ := hv
  have hlk : (bs.drop k).length = len - k := by simp; omega
  refine ⟨ao', cap - k, by rw [hlk], by omega, by omega, fun hn => ?_, fun hp => ?_⟩
  · by_cases hc : cap = k
    · omega
    · rw [hao hc] at hn
      have := h3 (by cases ao <;> simp_all)
      omega
  · have hc : cap ≠ k := by omega
    obtain ⟨g, off, ha, hcell⟩ := h4 (by omega)
    refine ⟨g, off + k, ?_, fun j hj => ?_⟩
    · rw [hao hc, ha]; simp [Addr.add_lit]
    · rw [Nat.add_assoc, hcell (k + j) (by omega)]
      simp [at8, List.getD]

theorem Sl.len {w : World} {ao : Option Addr} {len cap : Nat} {bs : List UInt8} (h : Sl w (.slice ao len cap) bs) : len = bs.length := by
  obtain ⟨_, _, hv, _⟩ := h
  simp only [Value.slice.injEq] at hv
  exact hv.2.1
theorem Sl.shape {w : World} {v : Value} {bs : List UInt8} (h : Sl w v bs) : ∃ ao cap, v = .slice ao bs.length cap ∧ bs.length ≤ cap ∧ cap ≤ maxLen := by
  obtain ⟨ao, cap, hv, h1, h2, _⟩ := h
  exact ⟨ao, cap, hv, h1, h2⟩
theorem Sl.cell {w : World} {ao : Option Addr} {len cap : Nat} {bs : List UInt8} (h : Sl w (.slice ao len cap) bs) (hp : 0 < len) : ∃ g off, ao = some ⟨g, off, none⟩ ∧ ∀ j, j < len → w.cell? ⟨g, off + j, none⟩ = some (.int .u8 (at8 bs j)) := by
  obtain ⟨ao2, cap', hv, h1, h2, h3, h4⟩ := h
  simp only [Value.slice.injEq] at hv
  obtain ⟨rfl, hl, rfl⟩ := hv
  rw [hl] at hp ⊢
  exact h4 hp

/-- An owned row reads as its bytes. -/
theorem Sl.of_own {w : World} {base : Nat} {v : Value} {bs : List UInt8} (h : w.ownsRow base 5 1 v bs.length (cells8 bs)) : Sl w v bs := by
  rcases h.2 with ⟨rfl, h0⟩ | ⟨g, cap, cur, rfl, _, hg, hn, hc, hs, ht⟩
  · have : bs = [] := List.eq_nil_of_length_eq_zero h0
    subst this
    exact Sl.nil w
  · refine ⟨_, cap, rfl, hn, hc, fun e => by simp at e, fun _ => ⟨g, 0, rfl, fun j hj => ?_⟩⟩
    rw [Nat.zero_add]
    rw [h.cellAt j (by omega), cells8_at _ _ hj]

theorem str_of_sl {P : Program} {w : World} {v : Value} {bs : List UInt8} (h : Sl w v bs) (src e dst : TypeId) (hs : P.underlying src = some (.slice e)) (he : P.underlying e = some (.int .u8)) (hd : P.underlying dst = some .string) :
    (convert src dst v).run P w = .ok (.string ⟨bs.toArray⟩) w := by
  obtain ⟨ao, cap, rfl, h1, h2, h3, h4⟩ := h
  by_cases hp : 0 < bs.length
  · obtain ⟨g, off, rfl, hc⟩ := h4 hp
    have := run_convert_bytes_arg (P := P) w src e hs he g off bs.length cap (bs.map fun b => (b.toNat : Int)) (by simp) (fun i hi => by
      rw [hc i hi]; simp [at8, List.getD, List.getElem?_eq_getElem hi]) dst hd
    rw [this]
    congr 1
    congr 1
    unfold strOfNums
    simp only [List.map_map, ByteArray.mk.injEq]
    congr 1
    exact (List.map_congr_left (g := id) fun b _ => by simp).trans (List.map_id _)
  · have : bs = [] := List.eq_nil_of_length_eq_zero (by omega)
    subst this
    cases ao with
    | none => rw [run_convert_bytes_nil (P := P) w src e hs he _ _ dst hd]; rfl
    | some a =>
      rw [List.length_nil, run_convert_bytes_string w src dst e _ _ cap hs he hd, run_bytesToString w a 0 cap [] (by simp [loadCells, loadCellsFrom])]
      rfl

/-- A writer: the block of its one field, and the row that the field owns. -/
def Wr (w : World) (T base B : Nat) (v : Value) (bs : List UInt8) : Prop := w.heap[B]? = some (.cells #[v] T (0, 0)) ∧ w.ownsRow base 5 1 v bs.length (cells8 bs)

/-- Nothing old has turned but the block B and one row. -/
structure Wrote (w w' : World) (B : Nat) (row : Option Nat) : Prop where
  os : w'.os = w.os
  tape : w'.tape = w.tape
  output : w'.output = w.output
  size : w.heap.size ≤ w'.heap.size
  block : ∀ k, k < w.heap.size → k ≠ B → some k ≠ row → w'.heap[k]? = w.heap[k]?

/-- The row is the old one, or a new one. -/
def Moved (w : World) (v v' : Value) : Prop := v'.ownBlock = v.ownBlock ∨ ∃ k, v'.ownBlock = some k ∧ w.heap.size ≤ k

theorem Moved.refl (w : World) (v : Value) : Moved w v v := Or.inl rfl
theorem Wrote.refl (w : World) (B : Nat) (row : Option Nat) : Wrote w w B row := ⟨rfl, rfl, rfl, Nat.le_refl _, fun _ _ _ _ => rfl⟩
theorem Moved.trans {a b : World} {u v x : Value} (h : Moved a u v) (k : Moved b v x) (hs : a.heap.size ≤ b.heap.size) : Moved a u x := by
  rcases k with k | ⟨g, k1, k2⟩
  · rcases h with h | ⟨g, h1, h2⟩
    · exact Or.inl (k.trans h)
    · exact Or.inr ⟨g, k.trans h1, h2⟩
  · exact Or.inr ⟨g, k1, by omega⟩
theorem Wrote.trans {a b c : World} {B : Nat} {u v : Value} (h : Wrote a b B u.ownBlock) (hm : Moved a u v) (k : Wrote b c B v.ownBlock) : Wrote a c B u.ownBlock :=
  ⟨k.os.trans h.os, k.tape.trans h.tape, k.output.trans h.output, Nat.le_trans h.size k.size, fun i hi hB hr => by
    refine (k.block i (Nat.lt_of_lt_of_le hi h.size) hB ?_).trans (h.block i hi hB hr)
    rcases hm with hm | ⟨g, h1, h2⟩
    · rw [hm]; exact hr
    · rw [h1]; intro e; simp at e; omega⟩
theorem Wrote.below {w w' : World} {B H : Nat} {row : Option Nat} (h : Wrote w w' B row) (hH : H ≤ w.heap.size) (hB : H ≤ B) (hr : ∀ k, row = some k → H ≤ k) : Below H w w' :=
  ⟨h.os, h.tape, h.output, h.size, fun k hk => h.block k (by omega) (by omega) (fun e => by have := hr k e.symm; omega)⟩
theorem Sl.wrote {w w' : World} {B : Nat} {row : Option Nat} {v : Value} {bs : List UInt8} (h : Sl w v bs) (hw : Wrote w w' B row) {u : Value} {T : TypeId} (hB : w.heap[B]? = some (.cells #[u] T (0, 0))) (hu : ∀ n, u ≠ .int .u8 n)
    (hr : ∀ g o n, w.cell? ⟨g, o, none⟩ = some (.int .u8 n) → g < w.heap.size → Sl w v bs → some g = row → w'.heap[g]? = w.heap[g]?) : Sl w' v bs :=
  h.kept fun g o n hc => by
    by_cases hg : some g = row
    · exact hr g o n hc (cell_lt hc) h hg
    · refine hw.block g (cell_lt hc) (fun e => ?_) hg
      subst e
      rw [cell_of_row w g o _ T (0, 0) hB] at hc
      cases o with
      | zero => simp at hc; exact hu n hc
      | succ o => simp at hc

theorem Wr.sl {w : World} {T base B : Nat} {v : Value} {bs : List UInt8} (h : Wr w T base B v bs) : Sl w v bs := Sl.of_own h.2
theorem Wr.lt {w : World} {T base B : Nat} {v : Value} {bs : List UInt8} (h : Wr w T base B v bs) : B < w.heap.size := lt_of_block h.1
theorem Wr.ne {w : World} {T base B : Nat} {v : Value} {bs : List UInt8} (h : Wr w T base B v bs) (hT : T ≠ 5) : some B ≠ v.ownBlock := by
  intro e
  rcases h.2.2 with ⟨rfl, _⟩ | ⟨g, cap, cur, rfl, _, hg, _⟩
  · simp [Value.ownBlock] at e
  · simp [Value.ownBlock] at e
    subst e
    have := h.1
    rw [hg] at this
    simp at this
    exact hT this.2.symm

/-- Behind an append onto the field and the store of what it gave. -/
theorem Wr.put {w w1 : World} {T base B : Nat} {v v' : Value} {bs news : List UInt8} (h : Wr w T base B v bs) (hT : T ≠ 5) (hown : w1.ownsRow base 5 1 v' (bs.length + news.length) (cells8 bs ++ cells8 news)) (hg : w.grownBy w1 v.ownBlock)
    (hm : Moved w v v') : Wr (w1.setCell ⟨B, 0, none⟩ v') T base B v' (bs ++ news) ∧ Wrote w (w1.setCell ⟨B, 0, none⟩ v') B v.ownBlock ∧ Moved w v v' := by
  have hB1 : w1.heap[B]? = some (.cells #[v] T (0, 0)) := by rw [hg.block B h.lt (h.ne hT)]; exact h.1
  have hne : ∀ g cur, w1.heap[g]? = some (.cells cur 5 (0, 0)) → g ≠ B := fun g cur hh e => by
    subst e; rw [hB1] at hh; simp at hh; exact hT hh.2
  refine ⟨⟨one_setCell hB1, ?_⟩, ⟨hg.os, hg.tape, hg.output, by simpa [World.setCell] using hg.size, fun k hk hkB hkr => ?_⟩, hm⟩
  · rw [List.length_append, cells8_append]
    obtain ⟨g1, g2⟩ := hown
    refine ⟨g1, ?_⟩
    rcases g2 with g2 | ⟨g, cap, cur, e1, e2, e3, e4⟩
    · exact Or.inl g2
    · exact Or.inr ⟨g, cap, cur, e1, e2, by rw [heap_setCell_other _ _ _ _ (show g ≠ B from hne g cur e3)]; exact e3, e4⟩
  · rw [heap_setCell_other _ _ _ _ (show k ≠ B from hkB)]
    exact hg.block k hk hkr

/-- A slice whose place is known, if it has one. -/
def Pl (v : Value) : Prop := v = .slice none 0 0 ∨ ∃ g off n cap, v = .slice (some ⟨g, off, none⟩) n cap
theorem Pl.of_own {w : World} {base : Nat} {v : Value} {bs : List UInt8} (h : w.ownsRow base 5 1 v bs.length (cells8 bs)) : Pl v := by
  rcases h.2 with ⟨rfl, h0⟩ | ⟨g, cap, cur, rfl, _⟩
  · exact Or.inl rfl
  · exact Or.inr ⟨g, 0, _, cap, rfl⟩

/-- A reader (or the document's): the block of its two fields: what is left, and whether it failed. -/
def Rd (w : World) (T B : Nat) (st : Option (List UInt8)) : Prop := ∃ v, w.heap[B]? = some (.cells #[v, .bool st.isNone] T (0, 0)) ∧ Sl w v (st.getD []) ∧ Pl v ∧ (st.getD []).length ≤ 140737488355328

theorem Rd.lt {w : World} {T B : Nat} {st : Option (List UInt8)} (h : Rd w T B st) : B < w.heap.size := by
  obtain ⟨v, h, _⟩ := h
  exact lt_of_block h

theorem Sl.not_block {w : World} {T B : Nat} {u : Value} {b : Bool} {us : List UInt8} (hB : w.heap[B]? = some (.cells #[u, .bool b] T (0, 0))) (hu : Sl w u us) {g o : Nat} {n : Int} (hc : w.cell? ⟨g, o, none⟩ = some (.int .u8 n)) : g ≠ B := by
  intro e
  subst e
  obtain ⟨ao, cap, rfl, _⟩ := hu.shape
  rw [cell_of_row w g o _ T (0, 0) hB] at hc
  match o, hc with
  | 0, hc => simp at hc
  | 1, hc => simp at hc
  | o + 2, hc => simp at hc

/-- A slice of bytes stays while a reader's block is written. -/
theorem Sl.rd {w w' : World} {T B : Nat} {st : Option (List UInt8)} {v : Value} {bs : List UInt8} (h : Sl w v bs) (hr : Rd w T B st) (hg : w.grownBy w' (some B)) : Sl w' v bs := by
  obtain ⟨u, hB, hu, _⟩ := hr
  refine h.kept fun g o n hc => hg.block g (cell_lt hc) (fun e => ?_)
  simp at e
  exact Sl.not_block hB hu hc e

/-- Another reader stays while a reader's block is written. -/
theorem Rd.rd {w w' : World} {T T' B B' : Nat} {st st' : Option (List UInt8)} (h : Rd w T B st) (hr : Rd w T' B' st') (hne : B ≠ B') (hg : w.grownBy w' (some B')) : Rd w' T B st := by
  obtain ⟨u, hB, hu, hp, hl⟩ := h
  exact ⟨u, by rw [hg.block B (lt_of_block hB) (by simp; omega)]; exact hB, hu.rd hr hg, hp, hl⟩
theorem Rd.below {w w' : World} {T B : Nat} {st : Option (List UInt8)} (h : Rd w T B st) (hb : Below w.heap.size w w') : Rd w' T B st := by
  obtain ⟨u, hB, hu, hp, hl⟩ := h
  exact ⟨u, by rw [hb.block B (lt_of_block hB)]; exact hB, hu.below hb, hp, hl⟩

theorem two_cells {w : World} {B T : Nat} {v u : Value} (h : w.heap[B]? = some (.cells #[v, u] T (0, 0))) : w.cell? ⟨B, 0, none⟩ = some v ∧ w.cell? ⟨B, 1, none⟩ = some u ∧ w.frozen? ⟨B, 0, none⟩ = false ∧ w.frozen? ⟨B, 1, none⟩ = false :=
  ⟨by rw [cell_of_row w B 0 _ T (0, 0) h]; rfl, by rw [cell_of_row w B 1 _ T (0, 0) h]; rfl, frozen_of_row w B 0 _ T h, frozen_of_row w B 1 _ T h⟩
theorem set_first {w : World} {B T : Nat} {v u x : Value} (h : w.heap[B]? = some (.cells #[v, u] T (0, 0))) : (w.setCell ⟨B, 0, none⟩ x).heap[B]? = some (.cells #[x, u] T (0, 0)) := by
  rw [heap_setCell_same w B 0 _ T x h]; rfl
theorem set_second {w : World} {B T : Nat} {v u x : Value} (h : w.heap[B]? = some (.cells #[v, u] T (0, 0))) : (w.setCell ⟨B, 1, none⟩ x).heap[B]? = some (.cells #[v, x] T (0, 0)) := by
  rw [heap_setCell_same w B 1 _ T x h]; rfl
theorem grown_set {w w' : World} {B o : Nat} {x : Value} (h : w.grownBy w' (some B)) : w.grownBy (w'.setCell ⟨B, o, none⟩ x) (some B) :=
  ⟨h.os, h.tape, h.output, by simpa [World.setCell] using h.size, fun k hk hne => by
    rw [heap_setCell_other _ _ _ _ (show k ≠ B from fun e => hne (by rw [e]))]; exact h.block k hk hne⟩
theorem grown_refl (w : World) (row : Option Nat) : w.grownBy w row := ⟨rfl, rfl, rfl, Nat.le_refl _, fun _ _ _ => rfl⟩

/-- A reader whose first field is turned. -/
theorem Rd.put {w : World} {T B : Nat} {v x : Value} {st bs : List UInt8} (hB : w.heap[B]? = some (.cells #[v, .bool false] T (0, 0))) (hv : Sl w v st) (hx : Sl w x bs) (hp : Pl x) (hl : bs.length ≤ 140737488355328) :
    Rd (w.setCell ⟨B, 0, none⟩ x) T B (some bs) ∧ w.grownBy (w.setCell ⟨B, 0, none⟩ x) (some B) := by
  have hg := grown_set (o := 0) (x := x) (grown_refl w (some B))
  refine ⟨⟨x, set_first hB, hx.kept fun g o n hc => hg.block g (cell_lt hc) (fun e => ?_), hp, hl⟩, hg⟩
  simp at e
  exact Sl.not_block hB hv hc e

/-- The slice that is left behind k bytes, as the walk writes it. -/
theorem sl_rest {w : World} {g off len cap : Nat} {bs : List UInt8} (h : Sl w (.slice (some ⟨g, off, none⟩) len cap) bs) (k : Nat) (hk : k ≤ len) :
    Sl w (.slice (if cap = k then some ⟨g, off, none⟩ else some ⟨g, off + k, none⟩) (len - k) (cap - k)) (bs.drop k) ∧ Pl (.slice (if cap = k then some ⟨g, off, none⟩ else some ⟨g, off + k, none⟩) (len - k) (cap - k)) := by
  refine ⟨h.drop k hk _ (fun hc => by rw [if_neg hc]; simp [Addr.add_lit]) (fun hc => by rw [if_pos hc]), ?_⟩
  split
  · exact Or.inr ⟨_, _, _, _, rfl⟩
  · exact Or.inr ⟨_, _, _, _, rfl⟩

theorem Below.of_grown {w w' : World} {B H : Nat} (h : w.grownBy w' (some B)) (hH : H ≤ w.heap.size) (hB : H ≤ B) : Below H w w' :=
  (Below.refl H w).grown h hH (fun k hk => by simp at hk; omega)

end Go.Proofs.YtnbdkojdddplkaaDoor.Bn

/- What a slice of bytes is in memory, and what keeps it: laws on worlds alone, no walk. -/
import Derived.Test.YtnbdkojdddplkaaDoorFrSealed
import Derived.WalkKit
import Derived.Maps.AppendAt
import Derived.Laws.AppendOwnNone
import Derived.Laws.BytesArg
namespace Go.Proofs.YtnbdkojdddplkaaDoor.Fr
open Go.RowKit

def cells8 (bs : List UInt8) : List Value := bs.map fun b => .int .u8 (b.toNat : Int)
theorem cells8_len (bs : List UInt8) : (cells8 bs).length = bs.length := by simp [cells8]
theorem cells8_at (bs : List UInt8) (j : Nat) (h : j < bs.length) : (cells8 bs)[j]? = some (.int .u8 (at8 bs j)) := by
  simp [cells8, at8, List.getD, List.getElem?_eq_getElem h]
theorem cells8_one (bs : List UInt8) : ∀ u ∈ cells8 bs, u.oneCell' = true := by
  intro u hu
  obtain ⟨_, _, rfl⟩ := List.mem_map.1 hu
  rfl
theorem cells8_append (a b : List UInt8) : cells8 (a ++ b) = cells8 a ++ cells8 b := by simp [cells8]

/-- A slice value that reads as these bytes. -/
def Sl (w : World) (v : Value) (bs : List UInt8) : Prop :=
  ∃ ao cap, v = .slice ao bs.length cap ∧ bs.length ≤ cap ∧ cap ≤ maxLen ∧ (ao = none → cap = 0) ∧
    (0 < bs.length → ∃ g off, ao = some ⟨g, off, none⟩ ∧ ∀ j, j < bs.length → w.cell? ⟨g, off + j, none⟩ = some (.int .u8 (at8 bs j)))

theorem Sl.nil (w : World) : Sl w (.slice none 0 0) [] := ⟨none, 0, rfl, Nat.le_refl _, by simp [maxLen], fun _ => rfl, fun h => by simp at h⟩

theorem Sl.kept {w w' : World} {v : Value} {bs : List UInt8} (h : Sl w v bs) (hb : ∀ g o n, w.cell? ⟨g, o, none⟩ = some (.int .u8 n) → w'.heap[g]? = w.heap[g]?) : Sl w' v bs := by
  obtain ⟨ao, cap, hv, h1, h2, h3, h4⟩ := h
  refine ⟨ao, cap, hv, h1, h2, h3, fun hp => ?_⟩
  obtain ⟨g, off, ha, hc⟩ := h4 hp
  exact ⟨g, off, ha, fun j hj => (World.cell?_of_block (w := w) (a := ⟨g, off + j, none⟩) (hb g (off + j) _ (hc j hj))).trans (hc j hj)⟩

theorem cell_lt {w : World} {g o : Nat} {u : Value} (h : w.cell? ⟨g, o, none⟩ = some u) : g < w.heap.size := World.block_lt_of_cell? w ⟨g, o, none⟩ h

/-- What is below B stays, whatever is done from B on. -/
theorem Sl.below {w w' : World} {v : Value} {bs : List UInt8} (h : Sl w v bs) (hb : Below w.heap.size w w') : Sl w' v bs :=
  h.kept fun g _ _ hc => hb.block g (cell_lt hc)

theorem Sl.alloc {w : World} {v : Value} {bs : List UInt8} (h : Sl w v bs) (o : Obj) : Sl (w.alloc o) v bs :=
  h.below ((Below.refl _ _).alloc (Nat.le_refl _) o)

/-- The front of a slice. -/
theorem Sl.take {w : World} {ao : Option Addr} {len cap : Nat} {bs : List UInt8} (h : Sl w (.slice ao len cap) bs) (k : Nat) (hk : k ≤ len) : Sl w (.slice ao k cap) (bs.take k) := by
  obtain ⟨ao', cap', hv, h1, h2, h3, h4⟩ := h
  simp only [Value.slice.injEq] at hv
  obtain ⟨rfl, hl, rfl⟩ := hv
  have hlk : (bs.take k).length = k := by simp; omega
  refine ⟨ao, cap, by rw [hlk], by omega, h2, h3, fun hp => ?_⟩
  obtain ⟨g, off, ha, hc⟩ := h4 (by omega)
  refine ⟨g, off, ha, fun j hj => ?_⟩
  rw [hlk] at hj
  rw [hc j (by omega)]
  simp [at8, List.getD, hj]

/-- What is behind the front of a slice. -/
theorem Sl.drop {w : World} {ao : Option Addr} {len cap : Nat} {bs : List UInt8} (h : Sl w (.slice ao len cap) bs) (k : Nat) (hk : k ≤ len) (ao' : Option Addr) (hao : cap ≠ k → ao' = ao.map (·.add k)) (hz : cap = k → ao' = ao) :
    Sl w (.slice ao' (len - k) (cap - k)) (bs.drop k) := by
  obtain ⟨ao2, cap', hv, h1, h2, h3, h4⟩ := h
  simp only [Value.slice.injEq] at hv
  obtain ⟨rfl, hl, rfl⟩ := hv
  have hlk : (bs.drop k).length = len - k := by simp; omega
  refine ⟨ao', cap - k, by rw [hlk], by omega, by omega, fun hn => ?_, fun hp => ?_⟩
  · by_cases hc : cap = k
    · omega
    · rw [hao hc] at hn
      have := h3 (by cases ao <;> simp_all)
      omega
  · have hc : cap ≠ k := by omega
    obtain ⟨g, off, ha, hcell⟩ := h4 (by omega)
    refine ⟨g, off + k, ?_, fun j hj => ?_⟩
    · rw [hao hc, ha]; simp [Addr.add_lit]
    · rw [Nat.add_assoc, hcell (k + j) (by omega)]
      simp [at8, List.getD]

theorem Sl.len {w : World} {ao : Option Addr} {len cap : Nat} {bs : List UInt8} (h : Sl w (.slice ao len cap) bs) : len = bs.length := by
  obtain ⟨_, _, hv, _⟩ := h
  simp only [Value.slice.injEq] at hv
  exact hv.2.1
theorem Sl.shape {w : World} {v : Value} {bs : List UInt8} (h : Sl w v bs) : ∃ ao cap, v = .slice ao bs.length cap ∧ bs.length ≤ cap ∧ cap ≤ maxLen := by
  obtain ⟨ao, cap, hv, h1, h2, _⟩ := h
  exact ⟨ao, cap, hv, h1, h2⟩
theorem Sl.cell {w : World} {ao : Option Addr} {len cap : Nat} {bs : List UInt8} (h : Sl w (.slice ao len cap) bs) (hp : 0 < len) : ∃ g off, ao = some ⟨g, off, none⟩ ∧ ∀ j, j < len → w.cell? ⟨g, off + j, none⟩ = some (.int .u8 (at8 bs j)) := by
  obtain ⟨ao2, cap', hv, h1, h2, h3, h4⟩ := h
  simp only [Value.slice.injEq] at hv
  obtain ⟨rfl, hl, rfl⟩ := hv
  rw [hl] at hp ⊢
  exact h4 hp

/-- An owned row reads as its bytes. -/
theorem Sl.of_own {w : World} {base : Nat} {v : Value} {bs : List UInt8} (h : w.ownsRow base 5 1 v bs.length (cells8 bs)) : Sl w v bs := by
  rcases h.2 with ⟨rfl, h0⟩ | ⟨g, cap, cur, rfl, _, hg, hn, hc, hs, ht⟩
  · have : bs = [] := List.eq_nil_of_length_eq_zero h0
    subst this
    exact Sl.nil w
  · refine ⟨_, cap, rfl, hn, hc, fun e => by simp at e, fun _ => ⟨g, 0, rfl, fun j hj => ?_⟩⟩
    rw [Nat.zero_add]
    rw [h.cellAt j (by omega), cells8_at _ _ hj]

theorem str_of_sl {P : Program} {w : World} {v : Value} {bs : List UInt8} (h : Sl w v bs) (src e dst : TypeId) (hs : P.underlying src = some (.slice e)) (he : P.underlying e = some (.int .u8)) (hd : P.underlying dst = some .string) :
    (convert src dst v).run P w = .ok (.string ⟨bs.toArray⟩) w := by
  obtain ⟨ao, cap, rfl, h1, h2, h3, h4⟩ := h
  by_cases hp : 0 < bs.length
  · obtain ⟨g, off, rfl, hc⟩ := h4 hp
    have := run_convert_bytes_arg (P := P) w src e hs he g off bs.length cap (bs.map fun b => (b.toNat : Int)) (by simp) (fun i hi => by
      rw [hc i hi]; simp [at8, List.getD, List.getElem?_eq_getElem hi]) dst hd
    rw [this]
    congr 1
    congr 1
    unfold strOfNums
    simp only [List.map_map, ByteArray.mk.injEq]
    congr 1
    exact (List.map_congr_left (g := id) fun b _ => by simp).trans (List.map_id _)
  · have : bs = [] := List.eq_nil_of_length_eq_zero (by omega)
    subst this
    cases ao with
    | none => rw [run_convert_bytes_nil (P := P) w src e hs he _ _ dst hd]; rfl
    | some a =>
      rw [List.length_nil, run_convert_bytes_string w src dst e _ _ cap hs he hd, run_bytesToString w a 0 cap [] (by simp [loadCells, loadCellsFrom])]
      rfl

/-- A slice whose place is known, if it has one. -/
def Pl (v : Value) : Prop := v = .slice none 0 0 ∨ ∃ g off n cap, v = .slice (some ⟨g, off, none⟩) n cap
theorem Pl.of_own {w : World} {base : Nat} {v : Value} {bs : List UInt8} (h : w.ownsRow base 5 1 v bs.length (cells8 bs)) : Pl v := by
  rcases h.2 with ⟨rfl, h0⟩ | ⟨g, cap, cur, rfl, _⟩
  · exact Or.inl rfl
  · exact Or.inr ⟨g, 0, _, cap, rfl⟩

theorem grown_refl (w : World) (row : Option Nat) : w.grownBy w row := ⟨rfl, rfl, rfl, Nat.le_refl _, fun _ _ _ => rfl⟩

/-- The slice that is left behind k bytes, as the walk writes it. -/
theorem sl_rest {w : World} {g off len cap : Nat} {bs : List UInt8} (h : Sl w (.slice (some ⟨g, off, none⟩) len cap) bs) (k : Nat) (hk : k ≤ len) :
    Sl w (.slice (if cap = k then some ⟨g, off, none⟩ else some ⟨g, off + k, none⟩) (len - k) (cap - k)) (bs.drop k) ∧ Pl (.slice (if cap = k then some ⟨g, off, none⟩ else some ⟨g, off + k, none⟩) (len - k) (cap - k)) := by
  refine ⟨h.drop k hk _ (fun hc => by rw [if_neg hc]; simp [Addr.add_lit]) (fun hc => by rw [if_pos hc]), ?_⟩
  split
  · exact Or.inr ⟨_, _, _, _, rfl⟩
  · exact Or.inr ⟨_, _, _, _, rfl⟩

theorem Below.of_grown {w w' : World} {B H : Nat} (h : w.grownBy w' (some B)) (hH : H ≤ w.heap.size) (hB : H ≤ B) : Below H w w' :=
  (Below.refl H w).grown h hH (fun k hk => by simp at hk; omega)

end Go.Proofs.YtnbdkojdddplkaaDoor.Fr

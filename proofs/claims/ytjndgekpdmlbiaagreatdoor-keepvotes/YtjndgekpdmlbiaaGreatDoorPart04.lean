/- What a slice of bytes is in memory, and what keeps it: laws on worlds alone, no walk. The walks of find, has, size: a name among files. What a folder is behind a change of one file: laws on worlds alone. Rows of elements of two cells: laws on runs and worlds alone. The walks of slices.Insert and slices.Delete at files. -/
import Derived.Test.YtjndgekpdmlbiaaGreatDoorPart03
import Derived.WalkKit
import Derived.Maps.AppendAt
import Derived.Laws.AppendOwnNone
import Derived.Laws.BytesArg
import Derived.Test.YtjndgekpdmlbiaaGreatDoorRows
import Derived.BigQuiet
import Derived.Laws.IdiomCopy
import Derived.Deep.AppendSrc
import Derived.Lib.AppendZerosOnto
import Derived.Lib.Overlaps
import Derived.Lib.AppendZeros
import Derived.Deep.RegionLaw
import Derived.Laws.Externs
import Derived.Lib.SliceRun
namespace Go.Proofs.YtjndgekpdmlbiaaGreatDoor.Dk
open Go.RowKit

def at8 (bs : List UInt8) (j : Nat) : Int := ((bs.getD j 0).toNat : Int)
def cells8 (bs : List UInt8) : List Value := bs.map fun b => .int .u8 (b.toNat : Int)
theorem cells8_len (bs : List UInt8) : (cells8 bs).length = bs.length := by simp [cells8]
theorem cells8_at (bs : List UInt8) (j : Nat) (h : j < bs.length) : (cells8 bs)[j]? = some (.int .u8 (at8 bs j)) := by
  simp [cells8, at8, List.getD, List.getElem?_eq_getElem h]
theorem cells8_one (bs : List UInt8) : ∀ u ∈ cells8 bs, u.oneCell' = true := by
  intro u hu
  obtain ⟨_, _, rfl⟩ := List.mem_map.1 hu
  rfl
theorem cells8_append (a b : List UInt8) : cells8 (a ++ b) = cells8 a ++ cells8 b := by simp [cells8]

/-- A slice value that reads as these bytes. -/
def Sl (w : World) (v : Value) (bs : List UInt8) : Prop :=
  ∃ ao cap, v = .slice ao bs.length cap ∧ bs.length ≤ cap ∧ cap ≤ maxLen ∧ (ao = none → cap = 0) ∧
    (0 < bs.length → ∃ g off, ao = some ⟨g, off, none⟩ ∧ ∀ j, j < bs.length → w.cell? ⟨g, off + j, none⟩ = some (.int .u8 (at8 bs j)))

theorem Sl.nil (w : World) : Sl w (.slice none 0 0) [] := ⟨none, 0, rfl, Nat.le_refl _, by simp [maxLen], fun _ => rfl, fun h => by simp at h⟩

theorem Sl.kept {w w' : World} {v : Value} {bs : List UInt8} (h : Sl w v bs) (hb : ∀ g o n, w.cell? ⟨g, o, none⟩ = some (.int .u8 n) → w'.heap[g]? = w.heap[g]?) : Sl w' v bs := by
  obtain ⟨ao, cap, hv, h1, h2, h3, h4⟩ := h
  refine ⟨ao, cap, hv, h1, h2, h3, fun hp => ?_⟩
  obtain ⟨g, off, ha, hc⟩ := h4 hp
  exact ⟨g, off, ha, fun j hj => (World.cell?_of_block (w := w) (a := ⟨g, off + j, none⟩) (hb g (off + j) _ (hc j hj))).trans (hc j hj)⟩

theorem cell_lt {w : World} {g o : Nat} {u : Value} (h : w.cell? ⟨g, o, none⟩ = some u) : g < w.heap.size := World.block_lt_of_cell? w ⟨g, o, none⟩ h

/-- What is below B stays, whatever is done from B on. -/
theorem Sl.below {w w' : World} {v : Value} {bs : List UInt8} (h : Sl w v bs) (hb : Below w.heap.size w w') : Sl w' v bs :=
  h.kept fun g _ _ hc => hb.block g (cell_lt hc)

theorem Sl.alloc {w : World} {v : Value} {bs : List UInt8} (h : Sl w v bs) (o : Obj) : Sl (w.alloc o) v bs :=
  h.below ((Below.refl _ _).alloc (Nat.le_refl _) o)

/-- The front of a slice. -/
theorem Sl.take {w : World} {ao : Option Addr} {len cap : Nat} {bs : List UInt8} (h : Sl w (.slice ao len cap) bs) (k : Nat) (hk : k ≤ len) : Sl w (.slice ao k cap) (bs.take k) := by
  obtain ⟨ao', cap', hv, h1, h2, h3, h4⟩ := h
  simp only [Value.slice.injEq] at hv
  obtain ⟨rfl, hl, rfl⟩ := hv
  have hlk : (bs.take k).length = k := by simp; omega
  refine ⟨ao, cap, by rw [hlk], by omega, h2, h3, fun hp => ?_⟩
  obtain ⟨g, off, ha, hc⟩ := h4 (by omega)
  refine ⟨g, off, ha, fun j hj => ?_⟩
  rw [hlk] at hj
  rw [hc j (by omega)]
  simp [at8, List.getD, hj]

/-- What is behind the front of a slice. -/
theorem Sl.drop {w : World} {ao : Option Addr} {len cap : Nat} {bs : List UInt8} (h : Sl w (.slice ao len cap) bs) (k : Nat) (hk : k ≤ len) (ao' : Option Addr) (hao : cap ≠ k → ao' = ao.map (·.add k)) (hz : cap = k → ao' = ao) :
    Sl w (.slice ao' (len - k) (cap - k)) (bs.drop k) := by
  obtain ⟨ao2, cap', hv, h1, h2, h3, h4⟩ := h
  simp only [Value.slice.injEq] at hv
  obtain ⟨rfl, hl, rfl⟩ := hv
  have hlk : (bs.drop k).length = len - k := by simp; omega
  refine ⟨ao', cap - k, by rw [hlk], by omega, by omega, fun hn => ?_, fun hp => ?_⟩
  · by_cases hc : cap = k
    · omega
    · rw [hao hc] at hn
      have := h3 (by cases ao <;> simp_all)
      omega
  · have hc : cap ≠ k := by omega
    obtain ⟨g, off, ha, hcell⟩ := h4 (by omega)
    refine ⟨g, off + k, ?_, fun j hj => ?_⟩
    · rw [hao hc, ha]; simp [Addr.add_lit]
    · rw [Nat.add_assoc, hcell (k + j) (by omega)]
      simp [at8, List.getD]

theorem Sl.len {w : World} {ao : Option Addr} {len cap : Nat} {bs : List UInt8} (h : Sl w (.slice ao len cap) bs) : len = bs.length := by
  obtain ⟨_, _, hv, _⟩ := h
  simp only [Value.slice.injEq] at hv
  exact hv.2.1
theorem Sl.shape {w : World} {v : Value} {bs : List UInt8} (h : Sl w v bs) : ∃ ao cap, v = .slice ao bs.length cap ∧ bs.length ≤ cap ∧ cap ≤ maxLen := by
  obtain ⟨ao, cap, hv, h1, h2, _⟩ := h
  exact ⟨ao, cap, hv, h1, h2⟩
theorem Sl.cell {w : World} {ao : Option Addr} {len cap : Nat} {bs : List UInt8} (h : Sl w (.slice ao len cap) bs) (hp : 0 < len) : ∃ g off, ao = some ⟨g, off, none⟩ ∧ ∀ j, j < len → w.cell? ⟨g, off + j, none⟩ = some (.int .u8 (at8 bs j)) := by
  obtain ⟨ao2, cap', hv, h1, h2, h3, h4⟩ := h
  simp only [Value.slice.injEq] at hv
  obtain ⟨rfl, hl, rfl⟩ := hv
  rw [hl] at hp ⊢
  exact h4 hp

/-- An owned row reads as its bytes. -/
theorem Sl.of_own {w : World} {base : Nat} {v : Value} {bs : List UInt8} (h : w.ownsRow base 5 1 v bs.length (cells8 bs)) : Sl w v bs := by
  rcases h.2 with ⟨rfl, h0⟩ | ⟨g, cap, cur, rfl, _, hg, hn, hc, hs, ht⟩
  · have : bs = [] := List.eq_nil_of_length_eq_zero h0
    subst this
    exact Sl.nil w
  · refine ⟨_, cap, rfl, hn, hc, fun e => by simp at e, fun _ => ⟨g, 0, rfl, fun j hj => ?_⟩⟩
    rw [Nat.zero_add]
    rw [h.cellAt j (by omega), cells8_at _ _ hj]

theorem str_of_sl {P : Program} {w : World} {v : Value} {bs : List UInt8} (h : Sl w v bs) (src e dst : TypeId) (hs : P.underlying src = some (.slice e)) (he : P.underlying e = some (.int .u8)) (hd : P.underlying dst = some .string) :
    (convert src dst v).run P w = .ok (.string ⟨bs.toArray⟩) w := by
  obtain ⟨ao, cap, rfl, h1, h2, h3, h4⟩ := h
  by_cases hp : 0 < bs.length
  · obtain ⟨g, off, rfl, hc⟩ := h4 hp
    have := run_convert_bytes_arg (P := P) w src e hs he g off bs.length cap (bs.map fun b => (b.toNat : Int)) (by simp) (fun i hi => by
      rw [hc i hi]; simp [at8, List.getD, List.getElem?_eq_getElem hi]) dst hd
    rw [this]
    congr 1
    congr 1
    unfold strOfNums
    simp only [List.map_map, ByteArray.mk.injEq]
    congr 1
    exact (List.map_congr_left (g := id) fun b _ => by simp).trans (List.map_id _)
  · have : bs = [] := List.eq_nil_of_length_eq_zero (by omega)
    subst this
    cases ao with
    | none => rw [run_convert_bytes_nil (P := P) w src e hs he _ _ dst hd]; rfl
    | some a =>
      rw [List.length_nil, run_convert_bytes_string w src dst e _ _ cap hs he hd, run_bytesToString w a 0 cap [] (by simp [loadCells, loadCellsFrom])]
      rfl

/-- A slice whose place is known, if it has one. -/
def Pl (v : Value) : Prop := v = .slice none 0 0 ∨ ∃ g off n cap, v = .slice (some ⟨g, off, none⟩) n cap
theorem Pl.of_own {w : World} {base : Nat} {v : Value} {bs : List UInt8} (h : w.ownsRow base 5 1 v bs.length (cells8 bs)) : Pl v := by
  rcases h.2 with ⟨rfl, h0⟩ | ⟨g, cap, cur, rfl, _⟩
  · exact Or.inl rfl
  · exact Or.inr ⟨g, 0, _, cap, rfl⟩

theorem grown_refl (w : World) (row : Option Nat) : w.grownBy w row := ⟨rfl, rfl, rfl, Nat.le_refl _, fun _ _ _ => rfl⟩


theorem grown_refl' (w : World) (row : Option Nat) : w.grownBy w row := grown_refl w row

/-- What a call may have turned: blocks of F alone, and new ones. -/
structure Fr (F : Nat → Prop) (w w' : World) : Prop where
  os : w'.os = w.os
  tape : w'.tape = w.tape
  output : w'.output = w.output
  size : w.heap.size ≤ w'.heap.size
  block : ∀ k, k < w.heap.size → ¬ F k → w'.heap[k]? = w.heap[k]?

theorem Fr.refl (F : Nat → Prop) (w : World) : Fr F w w := ⟨rfl, rfl, rfl, Nat.le_refl _, fun _ _ _ => rfl⟩
theorem Fr.trans {F G : Nat → Prop} {a b c : World} (h : Fr F a b) (k : Fr G b c) (hg : ∀ x, x < a.heap.size → G x → F x) : Fr F a c :=
  ⟨k.os.trans h.os, k.tape.trans h.tape, k.output.trans h.output, Nat.le_trans h.size k.size, fun i hi hF => (k.block i (Nat.lt_of_lt_of_le hi h.size) (fun hG => hF (hg i hi hG))).trans (h.block i hi hF)⟩
theorem Fr.mono {F G : Nat → Prop} {a b : World} (h : Fr F a b) (hg : ∀ x, x < a.heap.size → F x → G x) : Fr G a b :=
  ⟨h.os, h.tape, h.output, h.size, fun i hi hG => h.block i hi (fun hF => hG (hg i hi hF))⟩
theorem Fr.of_below {F : Nat → Prop} {w w' : World} (h : Below w.heap.size w w') : Fr F w w' := ⟨h.os, h.tape, h.output, h.size, fun k hk _ => h.block k hk⟩
theorem Fr.below {F : Nat → Prop} {w w' : World} {B : Nat} (h : Fr F w w') (hF : ∀ k, F k → B ≤ k) (hB : B ≤ w.heap.size) : Below B w w' :=
  ⟨h.os, h.tape, h.output, h.size, fun k hk => h.block k (by omega) (fun hk' => by have := hF k hk'; omega)⟩
theorem Fr.of_grown {F : Nat → Prop} {w w' : World} {row : Option Nat} (h : w.grownBy w' row) (hr : ∀ k, row = some k → F k) : Fr F w w' :=
  ⟨h.os, h.tape, h.output, h.size, fun k hk hF => h.block k hk (fun e => hF (hr k e.symm))⟩
theorem Fr.alloc {F : Nat → Prop} {a w : World} (h : Fr F a w) (o : Obj) : Fr F a (w.alloc o) :=
  h.trans (G := F) (Fr.of_below ((Below.refl _ _).alloc (Nat.le_refl _) o)) (fun _ _ h => h)
theorem Fr.drew {F : Nat → Prop} {a w : World} (h : Fr F a w) : Fr F a w.drew := ⟨h.os, h.tape, h.output, h.size, h.block⟩
theorem Fr.setCell {F : Nat → Prop} {a w : World} (h : Fr F a w) {p : Addr} (hp : p.block < a.heap.size → F p.block) (u : Value) : Fr F a (w.setCell p u) :=
  h.trans (G := fun k => k = p.block) ⟨rfl, rfl, rfl, by simp [World.setCell], fun k _ hk => Below.heap_setCell _ _ _ _ hk⟩ (fun _ hx e => by rw [e] at hx ⊢; exact hp hx)
theorem Fr.cell {F : Nat → Prop} {w w' : World} (h : Fr F w w') {p : Addr} {u : Value} (hc : w.cell? p = some u) (hp : ¬ F p.block) : w'.cell? p = some u :=
  (World.cell?_of_block (h.block p.block (World.block_lt_of_cell? w p hc) hp)).trans hc

/-- What was F's, and what is new. -/
def ext (F : Nat → Prop) (w w' : World) : Nat → Prop := fun k => F k ∨ (w.heap.size ≤ k ∧ k < w'.heap.size)

theorem own_kept {F : Nat → Prop} {w w' : World} {base e size n : Nat} {v : Value} {xs : List Value} (h : w.ownsRow base e size v n xs) (hf : Fr F w w') (hn : ∀ k, v.ownBlock = some k → ¬ F k) : w'.ownsRow base e size v n xs := by
  refine ⟨h.1, ?_⟩
  rcases h.2 with hn' | ⟨g, cap, cur, rfl, hb, hgg, rest⟩
  · exact .inl hn'
  · refine .inr ⟨g, cap, cur, rfl, hb, ?_, rest⟩
    rw [hf.block g (Array.getElem?_eq_some_iff.1 hgg).1 (hn g rfl)]
    exact hgg
theorem own_base {w : World} {base base' e size n : Nat} {v : Value} {xs : List Value} (h : w.ownsRow base e size v n xs) (hb : ∀ k, v.ownBlock = some k → base' ≤ k) : w.ownsRow base' e size v n xs := by
  refine ⟨h.1, ?_⟩
  rcases h.2 with hn' | ⟨g, cap, cur, rfl, _, rest⟩
  · exact .inl hn'
  · exact .inr ⟨g, cap, cur, rfl, hb g rfl, rest⟩
theorem own_zero {w : World} {base e size n : Nat} {v : Value} {xs : List Value} (h : w.ownsRow base e size v n xs) : w.ownsRow 0 e size v n xs := own_base h fun _ _ => Nat.zero_le _
theorem own_ne {w : World} {b b' e e' s s' n n' : Nat} {v v' : Value} {xs xs' : List Value} (h : w.ownsRow b e s v n xs) (h' : w.ownsRow b' e' s' v' n' xs') (he : e ≠ e') {k : Nat} (hk : v.ownBlock = some k) : v'.ownBlock ≠ some k := by
  intro hk'
  rcases h.2 with ⟨rfl, _⟩ | ⟨g, cap, cur, rfl, _, hg, _⟩
  · simp [Value.ownBlock] at hk
  · rcases h'.2 with ⟨rfl, _⟩ | ⟨g', cap', cur', rfl, _, hg', _⟩
    · simp [Value.ownBlock] at hk'
    · simp [Value.ownBlock] at hk hk'
      subst hk hk'
      rw [hg] at hg'
      simp at hg'
      exact he hg'.2
theorem own_shape {w : World} {b e s n : Nat} {v : Value} {xs : List Value} (h : w.ownsRow b e s v n xs) : (v = .slice none 0 0 ∧ n = 0) ∨ ∃ g cap, v = .slice (some ⟨g, 0, none⟩) n cap ∧ n ≤ cap ∧ cap ≤ maxLen ∧ g < w.heap.size := by
  rcases h.2 with h | ⟨g, cap, cur, rfl, _, hg, h1, h2, _⟩
  · exact .inl h
  · exact .inr ⟨g, cap, rfl, h1, h2, (Array.getElem?_eq_some_iff.1 hg).1⟩

theorem heap_set {w : World} {b o : Nat} {cs : Array Value} {T : TypeId} {fr : Nat × Nat} (hb : w.heap[b]? = some (.cells cs T fr)) (v : Value) : (w.setCell ⟨b, o, none⟩ v).heap[b]? = some (.cells (cs.setIfInBounds o v) T fr) := by
  simp [World.setCell, Array.getElem?_modify, hb]
theorem setCell_self {w : World} {b o : Nat} {v : Value} (h : w.cell? ⟨b, o, none⟩ = some v) (k : Nat) : (w.setCell ⟨b, o, none⟩ v).heap[k]? = w.heap[k]? := by
  by_cases hk : k = b
  · subst hk
    cases hb : w.heap[k]? with
    | none => simp [World.cell?, hb] at h
    | some ob =>
      cases ob with
      | cells cs T fr =>
        rw [heap_set hb]
        have hv : cs[o]? = some v := by simpa [World.cell?, hb] using h
        have : cs.setIfInBounds o v = cs := by
          apply Array.ext_getElem?
          intro i
          rw [Array.getElem?_setIfInBounds]
          split
          · subst_vars
            obtain ⟨h1, h2⟩ := Array.getElem?_eq_some_iff.1 hv
            simp [h1, h2]
          · rfl
        rw [this]
      | _ => simp [World.cell?, hb] at h
  · exact Below.heap_setCell _ _ _ _ hk
theorem Fr.of_self {F : Nat → Prop} {w w' : World} {b o : Nat} {v : Value} (h : w.cell? ⟨b, o, none⟩ = some v) (hf : Fr F w w') : Fr F (w.setCell ⟨b, o, none⟩ v) w' :=
  ⟨hf.os, hf.tape, hf.output, by simpa [World.setCell] using hf.size, fun k hk hF => by rw [setCell_self h]; exact hf.block k (by simpa [World.setCell] using hk) hF⟩

/-- A file in memory. -/
structure Ent where
  name : ByteArray
  dv : Value
  bs : List UInt8
def Ent.fl (z : Ent) : Fl := ⟨z.name, z.bs⟩
def Ent.cells (z : Ent) : List Value := [.string z.name, z.dv]
def cellsF (zs : List Ent) : List Value := zs.flatMap Ent.cells
theorem cellsF_len : ∀ zs : List Ent, (cellsF zs).length = zs.length * 2
  | [] => rfl
  | z :: r => by
    have := cellsF_len r
    simp [cellsF, Ent.cells] at this ⊢
    omega
theorem cellsF_append (a b : List Ent) : cellsF (a ++ b) = cellsF a ++ cellsF b := by simp [cellsF]
theorem cellsF_cons (z : Ent) (b : List Ent) : cellsF (z :: b) = .string z.name :: z.dv :: cellsF b := by simp [cellsF, Ent.cells]
theorem cellsF_at (l : List Ent) (z : Ent) (r : List Ent) : (cellsF (l ++ z :: r))[l.length * 2]? = some (.string z.name) ∧ (cellsF (l ++ z :: r))[l.length * 2 + 1]? = some z.dv := by
  rw [cellsF_append, cellsF_cons]
  have h := cellsF_len l
  constructor
  · rw [List.getElem?_append_right (by omega), h]; simp
  · rw [List.getElem?_append_right (by omega), h, Nat.add_sub_cancel_left]; rfl
theorem cellsF_get (zs : List Ent) (i : Nat) (h : i < zs.length) : (cellsF zs)[i * 2]? = some (.string zs[i].name) ∧ (cellsF zs)[i * 2 + 1]? = some zs[i].dv := by
  have e : zs = zs.take i ++ zs[i] :: zs.drop (i + 1) := by simp
  have hl : (zs.take i).length = i := by simp; omega
  have := cellsF_at (zs.take i) zs[i] (zs.drop (i + 1))
  rw [← e, hl] at this
  exact this

def Apart (a b : Ent) : Prop := ∀ k, a.dv.ownBlock = some k → b.dv.ownBlock ≠ some k
theorem Apart.symm {a b : Ent} (h : Apart a b) : Apart b a := fun k hb ha => h k ha hb

/-- A folder in memory: its row and its files' rows, all in F, no two in one block. -/
structure Fol (w : World) (v : Value) (zs : List Ent) (F : Nat → Prop) : Prop where
  row : w.ownsRow 0 113 2 v zs.length (cellsF zs)
  data : ∀ z ∈ zs, w.ownsRow 0 5 1 z.dv z.bs.length (cells8 z.bs)
  apart : zs.Pairwise Apart
  rowIn : ∀ k, v.ownBlock = some k → F k
  dataIn : ∀ z ∈ zs, ∀ k, z.dv.ownBlock = some k → F k
  lt : ∀ k, F k → k < w.heap.size

theorem Fol.kept {w w' : World} {v : Value} {zs : List Ent} {F G : Nat → Prop} (h : Fol w v zs F) (hf : Fr G w w') (hd : ∀ k, F k → ¬ G k) : Fol w' v zs F :=
  ⟨own_kept h.row hf fun k hk => hd k (h.rowIn k hk), fun z hz => own_kept (h.data z hz) hf fun k hk => hd k (h.dataIn z hz k hk), h.apart, h.rowIn, h.dataIn, fun k hk => Nat.lt_of_lt_of_le (h.lt k hk) hf.size⟩
theorem Fol.below {w w' : World} {v : Value} {zs : List Ent} {F : Nat → Prop} (h : Fol w v zs F) (hb : Below w.heap.size w w') : Fol w' v zs F :=
  h.kept (G := fun _ => False) (Fr.of_below hb) fun _ _ => id
theorem Fol.mono {w : World} {v : Value} {zs : List Ent} {F G : Nat → Prop} (h : Fol w v zs F) (hg : ∀ k, F k → G k) (hl : ∀ k, G k → k < w.heap.size) : Fol w v zs G :=
  ⟨h.row, h.data, h.apart, fun k hk => hg k (h.rowIn k hk), fun z hz k hk => hg k (h.dataIn z hz k hk), hl⟩
theorem Fol.nil (w : World) (F : Nat → Prop) (h : ∀ k, F k → k < w.heap.size) : Fol w (.slice none 0 0) [] F :=
  ⟨World.ownsRow_nil _ _ _ _, by simp, List.Pairwise.nil, by simp [Value.ownBlock], by simp, h⟩

/-- The cells of a file in its folder's row. -/
theorem Fol.cell {w : World} {g cap n : Nat} {zs : List Ent} {F : Nat → Prop} (h : Fol w (.slice (some ⟨g, 0, none⟩) n cap) zs F) (i : Nat) (hi : i < zs.length) : w.cell? ⟨g, i * 2, none⟩ = some (.string zs[i].name) ∧ w.cell? ⟨g, i * 2 + 1, none⟩ = some zs[i].dv := by
  obtain ⟨hn, _⟩ | ⟨g', cap', e, _⟩ := own_shape h.row
  · simp at hn
  · have hr := h.row
    rw [e] at hr
    simp only [Value.slice.injEq, Option.some.injEq, Addr.mk.injEq, and_true] at e
    obtain ⟨rfl, rfl, rfl⟩ := e
    have := cellsF_get zs i hi
    exact ⟨by rw [hr.cellAt _ (by omega)]; exact this.1, by rw [hr.cellAt _ (by omega)]; exact this.2⟩
theorem Fol.shape {w : World} {v : Value} {zs : List Ent} {F : Nat → Prop} (h : Fol w v zs F) : (v = .slice none 0 0 ∧ zs.length = 0) ∨ ∃ g cap, v = .slice (some ⟨g, 0, none⟩) zs.length cap ∧ zs.length ≤ cap ∧ cap ≤ maxLen ∧ g < w.heap.size := own_shape h.row
theorem Fol.frozen {w : World} {g cap n : Nat} {zs : List Ent} {F : Nat → Prop} (h : Fol w (.slice (some ⟨g, 0, none⟩) n cap) zs F) (j : Nat) : w.frozen? ⟨g, j, none⟩ = false := by
  obtain ⟨hn, _⟩ | ⟨g', cap', e, _⟩ := own_shape h.row
  · simp at hn
  · have hr := h.row
    rw [e] at hr
    simp only [Value.slice.injEq, Option.some.injEq, Addr.mk.injEq, and_true] at e
    obtain ⟨rfl, rfl, rfl⟩ := e
    exact hr.frozenAt j
end Go.Proofs.YtjndgekpdmlbiaaGreatDoor.Dk
namespace Go.Proofs.YtjndgekpdmlbiaaGreatDoor.Dk
open Go.RowKit

set_option maxHeartbeats 400000 in
theorem cmp_any (a b : ByteArray) (w : World) :
    Calls Tryz.prog 124 #[.string a, .string b] w fun e w' => e = .returned (.int .i64 (cmpN a b)) ∧ w' = w := by
  have hx : (callFunc 142 #[.string a, .string b]).run Tryz.prog w = .ok (.value (.int .i64 (cmpN a b))) w := by
    rw [run_callFunc_extern Tryz.func142 (by kernel_rfl) (by kernel_rfl) (by kernel_rfl) (e := Extern.BytealgCompare.compare) (by kernel_rfl), Lib.run_compareString]
    rfl
  have h53 : Calls Tryz.prog 138 #[.string a, .string b] w fun e w' => e = .returned (.int .i64 (cmpN a b)) ∧ w' = w := by
    go_enter Tryz.func138, Tryz.ntmps138
    go_wp2_with (simp only [hx])
    go_ret
    exact ⟨rfl, rfl⟩
  go_enter Tryz.func124, Tryz.ntmps124
  go_wp2_with (go_at_call 138; refine h53.mono ?_; rintro e w' ⟨rfl, hw⟩; have hw' := hw.symm; subst hw')
  go_ret
  exact ⟨rfl, rfl⟩

set_option maxHeartbeats 400000 in
theorem find1_any (a b : ByteArray) (d : Value) (w : World) :
    Calls Tryz.prog 123 #[.agg #[.string a, d], .string b] w fun e w' => e = .returned (.int .i64 (cmpN a b)) ∧ Below w.heap.size w w' := by
  go_enter Tryz.func123, Tryz.ntmps123
  go_wp2_with (go_at_call 124; refine (cmp_any a b _).mono ?_; rintro e w' ⟨rfl, hw⟩; have hw' := hw.symm; subst hw')
  go_ret
  exact ⟨rfl, (Below.refl _ _).alloc (Nat.le_refl _) _⟩

set_option maxHeartbeats 1000000 in
set_option maxRecDepth 20000 in
theorem bsf_any (v : Value) (zs : List Ent) (F : Nat → Prop) (n : ByteArray) (p : Nat) (w : World) (h : Fol w v zs F) (hp : p ≤ zs.length) (hlo : ∀ i (hi : i < zs.length), i < p → cmpN zs[i].name n < 0) (hhi : ∀ i (hi : i < zs.length), p ≤ i → ¬ cmpN zs[i].name n < 0) (hz : zs.length ≤ 1000000000) (b : Bool) (hb1 : ∀ h : p < zs.length, (cmpN zs[p].name n == 0) = b) (hb2 : ¬ p < zs.length → b = false) :
    Calls Tryz.prog 122 #[v, .string n, .func (.func 123) #[] #[]] w fun e w' => e = .returned (.tuple #[.int .i64 p, .bool b]) ∧ Below w.heap.size w w' := by
  have HB1 : Hid (∀ h : p < zs.length, (cmpN zs[p].name n == 0) = b) := hb1
  have HB2 : Hid (¬ p < zs.length → b = false) := hb2
  clear hb1 hb2
  have HL : Hid (∀ i (hi : i < zs.length), i < p → cmpN zs[i].name n < 0) := hlo
  have HH : Hid (∀ i (hi : i < zs.length), p ≤ i → ¬ cmpN zs[i].name n < 0) := hhi
  have HF : Hid (Fol w v zs F) := h
  have hsh : ∃ ao cap, v = .slice ao zs.length cap := by
    rcases h.shape with ⟨rfl, e⟩ | ⟨g, cap, rfl, _⟩
    · exact ⟨none, 0, by rw [e]⟩
    · exact ⟨_, _, rfl⟩
  obtain ⟨ao, cap, rfl⟩ := hsh
  clear hlo hhi h
  go_enter Tryz.func122, Tryz.ntmps122
  go_wp2
  go_loopw [9, 10] (fun vi vj wr => ∃ (i j : Nat), i ≤ p ∧ p ≤ j ∧ j ≤ zs.length ∧ vi = .int .i64 i ∧ vj = .int .i64 j ∧ Below w.heap.size w wr) (fun vi vj _ => (intOf vj).toNat - (intOf vi).toNat)
  case atStart => exact ⟨0, zs.length, Nat.zero_le _, hp, Nat.le_refl _, rfl, rfl, Below.refl _ _⟩
  case round =>
    obtain ⟨i, j, hi, hj, hjl, rfl, rfl, hb⟩ := hrel
    by_cases hlt : i < j
    · have hlt' : (i : Int) < (j : Int) := by omega
      obtain ⟨q, hq, hqi, hqj⟩ : ∃ q : Nat, ((i : Int) + (j : Int)) / 2 = (q : Int) ∧ i ≤ q ∧ q < j := ⟨(i + j) / 2, by omega, by omega, by omega⟩
      obtain ⟨g, rfl⟩ : ∃ g, ao = some ⟨g, 0, none⟩ := by
        rcases HF.out.shape with ⟨_, e⟩ | ⟨g, cap', e, _⟩
        · omega
        · simp at e; exact ⟨g, e.1⟩
      have hqz : q < zs.length := by omega
      obtain ⟨c0, c1⟩ := (HF.out.below hb).cell q hqz
      have hql : (q : Int) < (zs.length : Int) := by omega
      have hcmp : ∃ c : Int, Hid (c = cmpN zs[q].name n) := ⟨_, rfl⟩
      obtain ⟨c, HC⟩ := hcmp
      have hf1 : Hid (∀ w1 : World, Calls Tryz.prog 123 #[.agg #[.string zs[q].name, zs[q].dv], .string n] w1 fun e w' => e = .returned (.int .i64 c) ∧ Below w1.heap.size w1 w') := fun w1 => by
        rw [HC.out]; exact find1_any _ _ _ w1
      by_cases hqp : q < p
      · have hc : c < 0 := by rw [HC.out]; exact HL.out q hqz hqp
        go_wp2_with (go_at_call 123; refine (hf1.out _).mono ?_; rintro e w' ⟨rfl, hb'⟩)
        go_roundw
        case rel => exact ⟨q + 1, j, by omega, hj, hjl, by go_num, rfl, hb.trans (hb'.mono hb.size)⟩
        case measure => simp [intOf]; omega
      · have hc : ¬ c < 0 := by have := HH.out q hqz (by omega); rw [← HC.out] at this; omega
        go_wp2_with (go_at_call 123; refine (hf1.out _).mono ?_; rintro e w' ⟨rfl, hb'⟩)
        go_roundw
        case rel => exact ⟨i, q, hi, by omega, by omega, rfl, rfl, hb.trans (hb'.mono hb.size)⟩
        case measure => simp [intOf]; omega
    · have e : i = p := by omega
      subst e
      have hlt' : ¬ (i : Int) < (j : Int) := by omega
      by_cases hil : i < zs.length
      · obtain ⟨g, rfl⟩ : ∃ g, ao = some ⟨g, 0, none⟩ := by
          rcases HF.out.shape with ⟨_, e⟩ | ⟨g, cap', e, _⟩
          · omega
          · simp at e; exact ⟨g, e.1⟩
        obtain ⟨c0, c1⟩ := (HF.out.below hb).cell i hil
        have hil' : (i : Int) < (zs.length : Int) := by omega
        obtain ⟨c, HC⟩ : ∃ c : Int, Hid (c = cmpN zs[i].name n) := ⟨cmpN zs[i].name n, (rfl : cmpN zs[i].name n = cmpN zs[i].name n)⟩
        have HI : Hid (∀ w1 : World, Calls Tryz.prog 123 #[.agg #[.string zs[i].name, zs[i].dv], .string n] w1 fun e w' => e = .returned (.int .i64 c) ∧ Below w1.heap.size w1 w') := fun w1 => by rw [HC.out]; exact find1_any _ _ _ w1
        have hbc : (c == 0) = b := by rw [HC.out]; exact HB1.out hil
        go_wp2_with (go_at_call 123; refine (HI.out _).mono ?_; rintro e w' ⟨rfl, hb'⟩)
        go_ret2
        exact ⟨rfl, hb.trans (hb'.mono hb.size)⟩
      · have hil' : ¬ (i : Int) < (zs.length : Int) := by omega
        have hno := HB2.out hil
        subst hno
        go_wp2
        go_ret2
        exact ⟨rfl, hb⟩

/-- Where a name stands in a folder, or would. -/
def HitE (n : ByteArray) (zs zl : List Ent) (z : Ent) (zr : List Ent) : Prop := zs = zl ++ z :: zr ∧ z.name = n ∧ (∀ x ∈ zl, nlt x.name n) ∧ ∀ x ∈ zr, nlt n x.name
def MissE (n : ByteArray) (zs zl zr : List Ent) : Prop := zs = zl ++ zr ∧ (∀ x ∈ zl, nlt x.name n) ∧ ∀ x ∈ zr, nlt n x.name

theorem splitE (n : ByteArray) (zs : List Ent) (h : Srt (zs.map Ent.fl)) : (∃ zl z zr, HitE n zs zl z zr) ∨ ∃ zl zr, MissE n zs zl zr := by
  rcases split n _ h with ⟨l, f, r, e, hf, hl, hr⟩ | ⟨l, r, e, hl, hr⟩
  · obtain ⟨zl, z2, rfl, rfl, e2⟩ := List.map_eq_append_iff.1 e
    obtain ⟨z, zr, rfl, rfl, rfl⟩ := List.map_eq_cons_iff.1 e2
    exact Or.inl ⟨zl, z, zr, rfl, hf, fun x hx => hl x.fl (List.mem_map_of_mem hx), fun x hx => hr x.fl (List.mem_map_of_mem hx)⟩
  · obtain ⟨zl, zr, rfl, rfl, rfl⟩ := List.map_eq_append_iff.1 e
    exact Or.inr ⟨zl, zr, rfl, fun x hx => hl x.fl (List.mem_map_of_mem hx), fun x hx => hr x.fl (List.mem_map_of_mem hx)⟩
theorem HitE.hit {n : ByteArray} {zs zl : List Ent} {z : Ent} {zr : List Ent} (h : HitE n zs zl z zr) : Hit n (zs.map Ent.fl) (zl.map Ent.fl) z.fl (zr.map Ent.fl) := by
  obtain ⟨rfl, hf, hl, hr⟩ := h
  refine ⟨by simp, hf, fun x hx => ?_, fun x hx => ?_⟩
  · obtain ⟨y, hy, rfl⟩ := List.mem_map.1 hx
    exact hl y hy
  · obtain ⟨y, hy, rfl⟩ := List.mem_map.1 hx
    exact hr y hy
theorem MissE.miss {n : ByteArray} {zs zl zr : List Ent} (h : MissE n zs zl zr) : Miss n (zs.map Ent.fl) (zl.map Ent.fl) (zr.map Ent.fl) := by
  obtain ⟨rfl, hl, hr⟩ := h
  refine ⟨by simp, fun x hx => ?_, fun x hx => ?_⟩
  · obtain ⟨y, hy, rfl⟩ := List.mem_map.1 hx
    exact hl y hy
  · obtain ⟨y, hy, rfl⟩ := List.mem_map.1 hx
    exact hr y hy

theorem bsf_hit (v : Value) (zs : List Ent) (F : Nat → Prop) (n : ByteArray) (zl : List Ent) (z : Ent) (zr : List Ent) (w : World) (h : Fol w v zs F) (hh : HitE n zs zl z zr) (hz : zs.length ≤ 1000000000) :
    Calls Tryz.prog 122 #[v, .string n, .func (.func 123) #[] #[]] w fun e w' => e = .returned (.tuple #[.int .i64 zl.length, .bool true]) ∧ Below w.heap.size w w' := by
  obtain ⟨rfl, hn, hl, hr⟩ := hh
  refine bsf_any v _ F n zl.length w h (by simp) (fun i hi hip => ?_) (fun i hi hip => ?_) hz true (fun hi => ?_) (fun hi => ?_)
  · rw [List.getElem_append_left hip]
    exact hl _ (List.getElem_mem _)
  · rw [List.getElem_append_right hip]
    rcases Nat.eq_zero_or_pos (i - zl.length) with h0 | h0
    · simp only [h0, List.getElem_cons_zero]
      rw [hn]
      exact nlt_irrefl n
    · obtain ⟨j, hj⟩ : ∃ j, i - zl.length = j + 1 := ⟨i - zl.length - 1, by omega⟩
      simp only [hj, List.getElem_cons_succ]
      exact nlt_asymm (hr _ (List.getElem_mem _))
  · rw [List.getElem_append_right (Nat.le_refl _)]
    simp only [Nat.sub_self, List.getElem_cons_zero]
    rw [hn, cmpN_eq.2 rfl]
    rfl
  · simp at hi
theorem bsf_miss (v : Value) (zs : List Ent) (F : Nat → Prop) (n : ByteArray) (zl zr : List Ent) (w : World) (h : Fol w v zs F) (hh : MissE n zs zl zr) (hz : zs.length ≤ 1000000000) :
    Calls Tryz.prog 122 #[v, .string n, .func (.func 123) #[] #[]] w fun e w' => e = .returned (.tuple #[.int .i64 zl.length, .bool false]) ∧ Below w.heap.size w w' := by
  obtain ⟨rfl, hl, hr⟩ := hh
  refine bsf_any v _ F n zl.length w h (by simp) (fun i hi hip => ?_) (fun i hi hip => ?_) hz false (fun hi => ?_) (fun _ => rfl)
  · rw [List.getElem_append_left hip]
    exact hl _ (List.getElem_mem _)
  · rw [List.getElem_append_right hip]
    exact nlt_asymm (hr _ (List.getElem_mem _))
  · have hzr : zl.length - zl.length < zr.length := by simp at hi; omega
    rw [List.getElem_append_right (Nat.le_refl _)]
    have := hr _ (List.getElem_mem (l := zr) (n := zl.length - zl.length) hzr)
    have hne := (nlt_ne this).symm
    have : cmpN zr[zl.length - zl.length].name n ≠ 0 := fun h => hne (cmpN_eq.1 h)
    simpa using this

set_option maxHeartbeats 400000 in
theorem find_of (v : Value) (n : ByteArray) (p : Nat) (b : Bool) (w : World) (h : Calls Tryz.prog 122 #[v, .string n, .func (.func 123) #[] #[]] w fun e w' => e = .returned (.tuple #[.int .i64 p, .bool b]) ∧ Below w.heap.size w w') :
    Calls Tryz.prog 97 #[v, .string n] w fun e w' => e = .returned (.tuple #[.int .i64 p, .bool b]) ∧ Below w.heap.size w w' := by
  have HC : Hid (_) := h
  clear h
  go_enter Tryz.func97, Tryz.ntmps97
  go_wp2_with (go_at_call 122; refine Calls.mono HC.out ?_; rintro e w' ⟨rfl, hb'⟩)
  go_ret2
  exact ⟨rfl, hb'⟩
theorem find_hit (v : Value) (zs : List Ent) (F : Nat → Prop) (n : ByteArray) (zl : List Ent) (z : Ent) (zr : List Ent) (w : World) (h : Fol w v zs F) (hh : HitE n zs zl z zr) (hz : zs.length ≤ 1000000000) :
    Calls Tryz.prog 97 #[v, .string n] w fun e w' => e = .returned (.tuple #[.int .i64 zl.length, .bool true]) ∧ Below w.heap.size w w' :=
  find_of v n _ _ w (bsf_hit v zs F n zl z zr w h hh hz)
theorem find_miss (v : Value) (zs : List Ent) (F : Nat → Prop) (n : ByteArray) (zl zr : List Ent) (w : World) (h : Fol w v zs F) (hh : MissE n zs zl zr) (hz : zs.length ≤ 1000000000) :
    Calls Tryz.prog 97 #[v, .string n] w fun e w' => e = .returned (.tuple #[.int .i64 zl.length, .bool false]) ∧ Below w.heap.size w w' :=
  find_of v n _ _ w (bsf_miss v zs F n zl zr w h hh hz)
set_option maxHeartbeats 400000 in
theorem has_of (v : Value) (n : ByteArray) (p : Nat) (b : Bool) (w : World) (h : Calls Tryz.prog 97 #[v, .string n] w fun e w' => e = .returned (.tuple #[.int .i64 p, .bool b]) ∧ Below w.heap.size w w') :
    Calls Tryz.prog 101 #[v, .string n] w fun e w' => e = .returned (.bool b) ∧ Below w.heap.size w w' := by
  have HC : Hid (_) := h
  clear h
  go_enter Tryz.func101, Tryz.ntmps101
  go_wp2_with (go_at_call 97; refine Calls.mono HC.out ?_; rintro e w' ⟨rfl, hb'⟩)
  go_ret
  exact ⟨rfl, hb'⟩
theorem has_any (v : Value) (zs : List Ent) (F : Nat → Prop) (n : ByteArray) (w : World) (h : Fol w v zs F) (hs : Srt (zs.map Ent.fl)) (hz : zs.length ≤ 1000000000) :
    Calls Tryz.prog 101 #[v, .string n] w fun e w' => e = .returned (.bool (look n (zs.map Ent.fl)).isSome) ∧ Below w.heap.size w w' := by
  rcases splitE n zs hs with ⟨zl, z, zr, hh⟩ | ⟨zl, zr, hh⟩
  · rw [hh.hit.lookE]
    exact has_of v n _ _ w (find_hit v zs F n zl z zr w h hh hz)
  · rw [hh.miss.lookE]
    exact has_of v n _ _ w (find_miss v zs F n zl zr w h hh hz)

set_option maxHeartbeats 1000000 in
theorem size_any (v : Value) (zs : List Ent) (F : Nat → Prop) (w : World) (h : Fol w v zs F) (hm : mass (zs.map Ent.fl) ≤ 1000000000) :
    Calls Tryz.prog 65 #[v] w fun e w' => e = .returned (.int .i64 (used (zs.map Ent.fl))) ∧ Below w.heap.size w w' := by
  have hsh : ∃ ao cap, v = .slice ao zs.length cap := by
    rcases h.shape with ⟨rfl, e⟩ | ⟨g, cap, rfl, _⟩
    · exact ⟨none, 0, by rw [e]⟩
    · exact ⟨_, _, rfl⟩
  obtain ⟨ao, cap, rfl⟩ := hsh
  have hum := used_mass (zs.map Ent.fl)
  rw [List.length_map] at hum
  have hzl : zs.length ≤ 1000000000 := by omega
  have HM : Hid (used (zs.map Ent.fl) ≤ 1000000000) := by show _ ≤ _; omega
  have HF : Hid (Fol w (.slice ao zs.length cap) zs F) := h
  clear h hm hum
  go_enter Tryz.func65, Tryz.ntmps65
  go_wp2
  go_loopw [3, 8] (fun vt vi wr => ∃ (k t : Nat), k ≤ zs.length ∧ vi = .int .i64 k ∧ vt = .int .i64 t ∧ Hid (t = used ((zs.take k).map Ent.fl)) ∧ Below w.heap.size w wr) (fun _ vi _ => zs.length - (intOf vi).toNat)
  case atStart => exact ⟨0, 0, Nat.zero_le _, rfl, rfl, rfl, Below.refl _ _⟩
  case round =>
    obtain ⟨k, t, hk, rfl, rfl, HT, hb⟩ := hrel
    by_cases hlt : k < zs.length
    · have hlt' : (k : Int) < (zs.length : Int) := by omega
      obtain ⟨g, rfl⟩ : ∃ g, ao = some ⟨g, 0, none⟩ := by
        rcases HF.out.shape with ⟨_, e⟩ | ⟨g, cap', e, _⟩
        · omega
        · simp at e; exact ⟨g, e.1⟩
      obtain ⟨c0, c1⟩ := (HF.out.below hb).cell k hlt
      obtain ⟨aod, capd, hd, _, _⟩ := (Sl.of_own (HF.out.data zs[k] (List.getElem_mem hlt))).shape
      rw [hd] at c1
      have HT' : Hid (t + zs[k].bs.length = used ((zs.take (k + 1)).map Ent.fl)) := by
        show _ = _
        rw [HT.out, take_succ_snoc zs k zs[k] (List.getElem?_eq_getElem hlt), List.map_append, used_append]
        simp [used, Ent.fl]
      have hle : t + zs[k].bs.length ≤ 1000000000 := by
        have h1 := HT'.out
        have h2 := HM.out
        have h3 := congrArg (fun l => used (l.map Ent.fl)) (List.take_append_drop (k + 1) zs)
        simp only [List.map_append, used_append] at h3
        omega
      generalize zs[k].bs.length = m at *
      clear hd
      go_wp2
      go_roundw
      case rel => exact ⟨k + 1, t + m, by omega, by go_num, by go_num, HT', hb.alloc hb.size _⟩
      case measure => simp [intOf]; omega
    · have e : k = zs.length := by omega
      subst e
      go_wp2
      go_ret
      refine ⟨?_, hb⟩
      rw [HT.out, List.take_length]
      rfl
end Go.Proofs.YtjndgekpdmlbiaaGreatDoor.Dk
namespace Go.Proofs.YtjndgekpdmlbiaaGreatDoor.Dk
open Go.RowKit

theorem own_one {w : World} {b e s n : Nat} {v : Value} {xs : List Value} (h : w.ownsRow b e s v n xs) : v.oneCell' = true := by
  rcases own_shape h with ⟨rfl, _⟩ | ⟨g, cap, rfl, _⟩ <;> rfl
theorem own_slice {w : World} {b e s n : Nat} {v : Value} {xs : List Value} (h : w.ownsRow b e s v n xs) : ∃ ao L cap, v = .slice ao L cap := by
  rcases own_shape h with ⟨rfl, _⟩ | ⟨g, cap, rfl, _⟩ <;> exact ⟨_, _, _, rfl⟩
theorem Fol.ones {w : World} {v : Value} {zs : List Ent} {F : Nat → Prop} (h : Fol w v zs F) : ∀ u ∈ cellsF zs, u.oneCell' = true := by
  intro u hu
  obtain ⟨z, hz, hu⟩ := List.mem_flatMap.1 hu
  simp [Ent.cells] at hu
  rcases hu with rfl | rfl
  · rfl
  · exact own_one (h.data z hz)
theorem cellsF_take (a b : List Ent) : (cellsF (a ++ b)).take (a.length * 2) = cellsF a := by
  rw [cellsF_append, ← cellsF_len a, List.take_left]
theorem cellsF_drop (a b : List Ent) : (cellsF (a ++ b)).drop (a.length * 2) = cellsF b := by
  rw [cellsF_append, ← cellsF_len a, List.drop_left]
theorem cellsF_drop1 (a : List Ent) (z : Ent) (b : List Ent) : (cellsF (a ++ z :: b)).drop ((a.length + 1) * 2) = cellsF b := by
  rw [show a ++ z :: b = (a ++ [z]) ++ b by simp, show a.length + 1 = (a ++ [z]).length by simp, cellsF_drop]
theorem cellsF_set (a : List Ent) (z : Ent) (b : List Ent) (d : Value) (bs : List UInt8) : (cellsF (a ++ z :: b)).set (a.length * 2 + 1) d = cellsF (a ++ ⟨z.name, d, bs⟩ :: b) := by
  rw [cellsF_append, cellsF_append, cellsF_cons, cellsF_cons, List.set_append_right _ _ (by rw [cellsF_len]; omega), cellsF_len, Nat.add_sub_cancel_left]
  rfl

theorem ext_lt {F : Nat → Prop} {w w' : World} (hF : ∀ k, F k → k < w.heap.size) (hs : w.heap.size ≤ w'.heap.size) : ∀ k, ext F w w' k → k < w'.heap.size := by
  intro k hk
  rcases hk with hk | hk
  · have := hF k hk; omega
  · exact hk.2
theorem Fr.set_both {F : Nat → Prop} {w w' : World} (h : Fr F w w') (a : Addr) (u : Value) : Fr F (w.setCell a u) (w'.setCell a u) := by
  refine ⟨h.os, h.tape, h.output, by simpa [World.setCell] using h.size, fun k hk hF => ?_⟩
  have hb := h.block k (by simpa [World.setCell] using hk) hF
  simp only [World.setCell, Array.getElem?_modify, hb]

/-- Slices that lie aside. -/
structure SlA (w : World) (v : Value) (bs : List UInt8) (G : Nat → Prop) : Prop where
  sl : Sl w v bs
  away : ∀ a n c, v = .slice (some a) n c → ¬ G a.block
theorem SlA.kept {w w' : World} {v : Value} {bs : List UInt8} {G : Nat → Prop} (h : SlA w v bs G) (hf : Fr G w w') : SlA w' v bs G := by
  refine ⟨?_, h.away⟩
  obtain ⟨ao, cap, hv, h1, h2, h3, h4⟩ := h.sl
  refine ⟨ao, cap, hv, h1, h2, h3, fun hp => ?_⟩
  obtain ⟨g, off, ha, hc⟩ := h4 hp
  subst ha
  have ha : ¬ G g := h.away ⟨g, off, none⟩ _ _ hv
  exact ⟨g, off, rfl, fun j hj => hf.cell (hc j hj) ha⟩
theorem SlA.mono {w : World} {v : Value} {bs : List UInt8} {G H : Nat → Prop} (h : SlA w v bs G) (hg : ∀ k, H k → G k) : SlA w v bs H := ⟨h.sl, fun a n c hv hH => h.away a n c hv (hg _ hH)⟩
theorem SlA.of_own {w : World} {b : Nat} {v : Value} {bs : List UInt8} {G : Nat → Prop} (h : w.ownsRow b 5 1 v bs.length (cells8 bs)) (hg : ∀ k, v.ownBlock = some k → ¬ G k) : SlA w v bs G :=
  ⟨Sl.of_own h, fun a n c hv => hg _ (by rw [hv]; rfl)⟩

/-- The bytes of one file have changed: its new slice is stored. -/
theorem Fol.put {w w2 : World} {g N cap : Nat} {zl : List Ent} {z : Ent} {zr : List Ent} {F : Nat → Prop} (h : Fol w (.slice (some ⟨g, 0, none⟩) N cap) (zl ++ z :: zr) F) (d : Value) (bs : List UInt8)
    (hd : w2.ownsRow 0 5 1 d bs.length (cells8 bs)) (hg : w.grownBy w2 z.dv.ownBlock) (hb : d.ownBlock = z.dv.ownBlock ∨ (∃ k, d.ownBlock = some k ∧ w.heap.size ≤ k)) :
    Fol (w2.setCell ⟨g, zl.length * 2 + 1, none⟩ d) (.slice (some ⟨g, 0, none⟩) N cap) (zl ++ ⟨z.name, d, bs⟩ :: zr) (ext F w (w2.setCell ⟨g, zl.length * 2 + 1, none⟩ d)) ∧ Fr F w (w2.setCell ⟨g, zl.length * 2 + 1, none⟩ d) ∧ w2.cell? ⟨g, zl.length * 2 + 1, none⟩ = some z.dv ∧ w2.frozen? ⟨g, zl.length * 2 + 1, none⟩ = false := by
  have hz : z ∈ zl ++ z :: zr := by simp
  have hgz : z.dv.ownBlock ≠ some g := own_ne h.row (h.data z hz) (by decide) rfl
  have hN : N = (zl ++ z :: zr).length := by
    rcases h.shape with ⟨e, _⟩ | ⟨_, _, e, _⟩
    · simp at e
    · simp only [Value.slice.injEq] at e; exact e.2.1
  subst hN
  have hrow2 : w2.ownsRow 0 113 2 (.slice (some ⟨g, 0, none⟩) (zl ++ z :: zr).length cap) (zl ++ z :: zr).length (cellsF (zl ++ z :: zr)) := h.row.kept hg (Or.inr (fun e => hgz e.symm))
  have hst := hrow2.stored (zl.length * 2 + 1) d
  have hgd : ∀ k, d.ownBlock = some k → k ≠ g := fun k hk e => own_ne hrow2 hd (by decide) rfl (by rw [hk, e])
  have hfr : Fr F w (w2.setCell ⟨g, zl.length * 2 + 1, none⟩ d) :=
    Fr.setCell (Fr.of_grown hg (fun k hk => h.dataIn z hz k hk)) (fun _ => h.rowIn g rfl) d
  have hsz : w.heap.size ≤ (w2.setCell ⟨g, zl.length * 2 + 1, none⟩ d).heap.size := hfr.size
  have hlt : ∀ k, d.ownBlock = some k → k < (w2.setCell ⟨g, zl.length * 2 + 1, none⟩ d).heap.size := fun k hk => by
    have := (hd.lt k hk).2
    simpa [World.setCell] using this
  have hnew : ∀ k, d.ownBlock = some k → ext F w (w2.setCell ⟨g, zl.length * 2 + 1, none⟩ d) k := fun k hk => by
    rcases hb with hb | ⟨k', hk', hge⟩
    · exact Or.inl (h.dataIn z hz k (by rw [← hb]; exact hk))
    · rw [hk] at hk'
      cases hk'
      exact Or.inr ⟨hge, hlt k hk⟩
  have hapart := List.pairwise_append.1 h.apart
  have hap2 := List.pairwise_cons.1 hapart.2.1
  have hAz : ∀ x : Ent, x ∈ zl ∨ x ∈ zr → Apart x ⟨z.name, d, bs⟩ := fun x hx k hk hk' => by
    have hxz : Apart x z := by
      rcases hx with hx | hx
      · exact hapart.2.2 x hx z (by simp)
      · exact (hap2.1 x hx).symm
    rcases hb with hb | ⟨k2, hk2, hge⟩
    · exact hxz k hk (by rw [← hb]; exact hk')
    · simp only at hk'
      rw [hk'] at hk2
      cases hk2
      have hxm : x ∈ zl ++ z :: zr := by
        rcases hx with hx | hx <;> simp [hx]
      have := h.lt k (h.dataIn x hxm k hk)
      omega
  have hdata : ∀ x : Ent, x ∈ zl ∨ x ∈ zr → (w2.setCell ⟨g, zl.length * 2 + 1, none⟩ d).ownsRow 0 5 1 x.dv x.bs.length (cells8 x.bs) := fun x hx => by
    have hxm : x ∈ zl ++ z :: zr := by
      rcases hx with hx | hx <;> simp [hx]
    have hxz : Apart x z := by
      rcases hx with hx | hx
      · exact hapart.2.2 x hx z (by simp)
      · exact (hap2.1 x hx).symm
    have h2 := (h.data x hxm).kept hg (by
      cases hxo : x.dv.ownBlock with
      | none => exact Or.inl rfl
      | some k => exact Or.inr (fun e => hxz k hxo e.symm))
    refine h2.kept hst.2 (Or.inr fun e => ?_)
    exact own_ne h.row (h.data x hxm) (by decide) rfl e
  refine ⟨⟨?_, ?_, ?_, ?_, ?_, ext_lt h.lt hsz⟩, hfr, ?_, hrow2.frozenAt _⟩
  · have e := hst.1
    rw [cellsF_set zl z zr d bs] at e
    have hl : (zl ++ z :: zr).length = (zl ++ (⟨z.name, d, bs⟩ : Ent) :: zr).length := by simp
    rw [← hl]
    exact e
  · intro x hx
    rcases List.mem_append.1 hx with hx | hx
    · exact hdata x (Or.inl hx)
    · rcases List.mem_cons.1 hx with rfl | hx
      · exact hd.kept hst.2 (by
          cases hdo : d.ownBlock with
          | none => exact Or.inl rfl
          | some k => exact Or.inr (fun e => hgd k hdo (by simpa using e)))
      · exact hdata x (Or.inr hx)
  · refine List.pairwise_append.2 ⟨hapart.1, List.pairwise_cons.2 ⟨fun x hx => (hAz x (Or.inr hx)).symm, hap2.2⟩, fun x hx y hy => ?_⟩
    rcases List.mem_cons.1 hy with rfl | hy
    · exact hAz x (Or.inl hx)
    · exact hapart.2.2 x hx y (by simp [hy])
  · exact fun k hk => Or.inl (h.rowIn k hk)
  · intro x hx k hk
    rcases List.mem_append.1 hx with hx | hx
    · exact Or.inl (h.dataIn x (by simp [hx]) k hk)
    · rcases List.mem_cons.1 hx with rfl | hx
      · exact hnew k hk
      · exact Or.inl (h.dataIn x (by simp [hx]) k hk)
  · have := hrow2.cellAt (zl.length * 2 + 1) (by simp; omega)
    rw [this]
    exact (cellsF_at zl z zr).2

/-- A file has come in. -/
theorem Fol.inserted {w w' : World} {v v' : Value} {zl zr : List Ent} {F : Nat → Prop} (h : Fol w v (zl ++ zr) F) (n : ByteArray) (d : Value) (bs : List UInt8)
    (hrow : w'.ownsRow 0 113 2 v' ((zl ++ zr).length + 1) ((cellsF (zl ++ zr)).take (zl.length * 2) ++ [.string n, d] ++ (cellsF (zl ++ zr)).drop (zl.length * 2))) (hg : w.grownBy w' v.ownBlock) (hv : v'.ownBlock = v.ownBlock ∨ (∃ k, v'.ownBlock = some k ∧ w.heap.size ≤ k))
    (hd : w.ownsRow 0 5 1 d bs.length (cells8 bs)) (hdF : ∀ k, d.ownBlock = some k → F k) (hap : ∀ x ∈ zl ++ zr, Apart x ⟨n, d, bs⟩) : Fol w' v' (zl ++ ⟨n, d, bs⟩ :: zr) (ext F w w') := by
  have hkeep : ∀ (x : Ent), w.ownsRow 0 5 1 x.dv x.bs.length (cells8 x.bs) → w'.ownsRow 0 5 1 x.dv x.bs.length (cells8 x.bs) := fun x hx => by
    refine hx.kept hg ?_
    cases hxo : x.dv.ownBlock with
    | none => exact Or.inl rfl
    | some k => exact Or.inr (fun e => own_ne hx h.row (by decide) hxo e.symm)
  have hapart := List.pairwise_append.1 h.apart
  refine ⟨?_, ?_, ?_, ?_, ?_, ext_lt h.lt hg.size⟩
  · rw [cellsF_take, cellsF_drop] at hrow
    have e : cellsF (zl ++ ⟨n, d, bs⟩ :: zr) = cellsF zl ++ [.string n, d] ++ cellsF zr := by
      rw [cellsF_append, cellsF_cons, List.append_assoc]
      rfl
    rw [e]
    have hl : (zl ++ (⟨n, d, bs⟩ : Ent) :: zr).length = (zl ++ zr).length + 1 := by simp; omega
    rw [hl]
    exact hrow
  · intro x hx
    rcases List.mem_append.1 hx with hx | hx
    · exact hkeep x (h.data x (by simp [hx]))
    · rcases List.mem_cons.1 hx with rfl | hx
      · exact hkeep _ hd
      · exact hkeep x (h.data x (by simp [hx]))
  · refine List.pairwise_append.2 ⟨hapart.1, List.pairwise_cons.2 ⟨fun x hx => (hap x (by simp [hx])).symm, hapart.2.1⟩, fun x hx y hy => ?_⟩
    rcases List.mem_cons.1 hy with rfl | hy
    · exact hap x (by simp [hx])
    · exact hapart.2.2 x hx y hy
  · intro k hk
    rcases hv with hv | ⟨k', hk', hge⟩
    · exact Or.inl (h.rowIn k (by rw [← hv]; exact hk))
    · rw [hk] at hk'
      cases hk'
      exact Or.inr ⟨hge, (hrow.lt k hk).2⟩
  · intro x hx k hk
    rcases List.mem_append.1 hx with hx | hx
    · exact Or.inl (h.dataIn x (by simp [hx]) k hk)
    · rcases List.mem_cons.1 hx with rfl | hx
      · exact Or.inl (hdF k hk)
      · exact Or.inl (h.dataIn x (by simp [hx]) k hk)

/-- A file has gone. -/
theorem Fol.deleted {w w' : World} {v v' : Value} {zl : List Ent} {z : Ent} {zr : List Ent} {F : Nat → Prop} (h : Fol w v (zl ++ z :: zr) F)
    (hrow : w'.ownsRow 0 113 2 v' ((zl ++ z :: zr).length - 1) ((cellsF (zl ++ z :: zr)).take (zl.length * 2) ++ (cellsF (zl ++ z :: zr)).drop ((zl.length + 1) * 2))) (hg : w.grownBy w' v.ownBlock) (hv : v'.ownBlock = v.ownBlock) : Fol w' v' (zl ++ zr) F := by
  have hkeep : ∀ (x : Ent), w.ownsRow 0 5 1 x.dv x.bs.length (cells8 x.bs) → w'.ownsRow 0 5 1 x.dv x.bs.length (cells8 x.bs) := fun x hx => by
    refine hx.kept hg ?_
    cases hxo : x.dv.ownBlock with
    | none => exact Or.inl rfl
    | some k => exact Or.inr (fun e => own_ne hx h.row (by decide) hxo e.symm)
  have hm : ∀ x ∈ zl ++ zr, x ∈ zl ++ z :: zr := fun x hx => by
    rcases List.mem_append.1 hx with hx | hx <;> simp [hx]
  refine ⟨?_, fun x hx => hkeep x (h.data x (hm x hx)), h.apart.sublist (by simp), fun k hk => h.rowIn k (by rw [← hv]; exact hk), fun x hx => h.dataIn x (hm x hx), fun k hk => Nat.lt_of_lt_of_le (h.lt k hk) hg.size⟩
  rw [cellsF_take, cellsF_drop1, ← cellsF_append] at hrow
  have hl : (zl ++ z :: zr).length - 1 = (zl ++ zr).length := by simp
  rw [hl] at hrow
  exact hrow

theorem ext_from {F : Nat → Prop} {w w1 w' : World} (h : w.heap.size ≤ w1.heap.size) : ∀ k, ext F w1 w' k → ext F w w' k := fun k hk => by
  rcases hk with hk | hk
  · exact Or.inl hk
  · exact Or.inr ⟨by omega, hk.2⟩
theorem ext_ext {F : Nat → Prop} {w w1 w2 w3 : World} (h1 : w.heap.size ≤ w1.heap.size) (h2 : w1.heap.size ≤ w2.heap.size) (h3 : w2.heap.size ≤ w3.heap.size) : ∀ k, ext (ext F w1 w2) w2 w3 k → ext F w w3 k := fun k hk => by
  rcases hk with (hk | hk) | hk
  · exact Or.inl hk
  · exact Or.inr ⟨by omega, by omega⟩
  · exact Or.inr ⟨by omega, hk.2⟩
theorem Fr.frozen {F : Nat → Prop} {w w' : World} (h : Fr F w w') {p : Addr} {u : Value} (hc : w.cell? p = some u) (hp : ¬ F p.block) : w'.frozen? p = w.frozen? p :=
  World.frozen?_of_block (h.block p.block (World.block_lt_of_cell? w p hc) hp)
theorem setCell_size (w : World) (a : Addr) (u : Value) : (w.setCell a u).heap.size = w.heap.size := by simp [World.setCell]
theorem setCell_twice (w : World) (b o : Nat) (x y : Value) (k : Nat) : ((w.setCell ⟨b, o, none⟩ x).setCell ⟨b, o, none⟩ y).heap[k]? = (w.setCell ⟨b, o, none⟩ y).heap[k]? := by
  simp only [World.setCell, Array.getElem?_modify]
  split
  · cases w.heap[k]? with
    | none => rfl
    | some ob => cases ob <;> simp
  · rfl
/-- One change of a pointed-to slice behind another. -/
theorem Fr.then {F G : Nat → Prop} {w w1 w2 : World} {b o : Nat} {x y : Value} (h : Fr F (w.setCell ⟨b, o, none⟩ x) w1) (k : Fr G (w1.setCell ⟨b, o, none⟩ y) w2) (hg : ∀ i, i < w.heap.size → G i → F i) : Fr F (w.setCell ⟨b, o, none⟩ y) w2 := by
  have h2 := (h.set_both ⟨b, o, none⟩ y).trans k (fun i hi hG => hg i (by simpa [World.setCell] using hi) hG)
  refine ⟨h2.os, h2.tape, h2.output, by simpa [World.setCell] using h2.size, fun i hi hF => ?_⟩
  rw [h2.block i (by simpa [World.setCell] using hi) hF, setCell_twice]
/-- What the pointed-to slice is behind a change. -/
theorem Fr.at {G : Nat → Prop} {w w' : World} {b o : Nat} {v v' : Value} (h : Fr G (w.setCell ⟨b, o, none⟩ v') w') (hc : w.cell? ⟨b, o, none⟩ = some v) (hb : ¬ G b) : w'.cell? ⟨b, o, none⟩ = some v' ∧ w'.frozen? ⟨b, o, none⟩ = w.frozen? ⟨b, o, none⟩ := by
  have h1 := World.cell?_setCell_same (w := w) (a := ⟨b, o, none⟩) (v := v') hc
  exact ⟨h.cell h1 hb, (h.frozen h1 hb).trans (World.frozen?_setCell _ _ _ _)⟩

/-- A file is stored in its folder's row. -/
theorem Fol.set {w : World} {g N cap : Nat} {zl : List Ent} {z : Ent} {zr : List Ent} {F : Nat → Prop} (h : Fol w (.slice (some ⟨g, 0, none⟩) N cap) (zl ++ z :: zr) F) (n : ByteArray) (d : Value) (bs : List UInt8)
    (hd : w.ownsRow 0 5 1 d bs.length (cells8 bs)) (hdF : ∀ k, d.ownBlock = some k → F k) (hap : ∀ x : Ent, x ∈ zl ∨ x ∈ zr → Apart x ⟨n, d, bs⟩) :
    Fol ((w.setCell ⟨g, zl.length * 2, none⟩ (.string n)).setCell ⟨g, zl.length * 2 + 1, none⟩ d) (.slice (some ⟨g, 0, none⟩) N cap) (zl ++ ⟨n, d, bs⟩ :: zr) F := by
  have hN : N = (zl ++ z :: zr).length := by
    rcases h.shape with ⟨e, _⟩ | ⟨_, _, e, _⟩
    · simp at e
    · simp only [Value.slice.injEq] at e; exact e.2.1
  subst hN
  have h1 := h.row.stored (zl.length * 2) (.string n)
  have h2 := h1.1.stored (zl.length * 2 + 1) d
  have hg := h1.2.trans h2.2
  have hapart := List.pairwise_append.1 h.apart
  have hap2 := List.pairwise_cons.1 hapart.2.1
  have hkeep : ∀ (x : Ent), w.ownsRow 0 5 1 x.dv x.bs.length (cells8 x.bs) → ((w.setCell ⟨g, zl.length * 2, none⟩ (.string n)).setCell ⟨g, zl.length * 2 + 1, none⟩ d).ownsRow 0 5 1 x.dv x.bs.length (cells8 x.bs) := fun x hx => by
    refine hx.kept hg ?_
    cases hxo : x.dv.ownBlock with
    | none => exact Or.inl rfl
    | some k => exact Or.inr (fun e => own_ne hx h.row (by decide) hxo e.symm)
  refine ⟨?_, ?_, ?_, h.rowIn, ?_, fun k hk => Nat.lt_of_lt_of_le (h.lt k hk) hg.size⟩
  · have e := h2.1
    have e2 : ((cellsF (zl ++ z :: zr)).set (zl.length * 2) (.string n)).set (zl.length * 2 + 1) d = cellsF (zl ++ ⟨n, d, bs⟩ :: zr) := by
      rw [cellsF_append, cellsF_append, cellsF_cons, cellsF_cons, List.set_append_right _ _ (by rw [cellsF_len]; omega), cellsF_len, Nat.sub_self, List.set_append_right _ _ (by rw [cellsF_len]; omega), cellsF_len, Nat.add_sub_cancel_left]
      rfl
    rw [e2] at e
    have hl : (zl ++ z :: zr).length = (zl ++ (⟨n, d, bs⟩ : Ent) :: zr).length := by simp
    rw [← hl]
    exact e
  · intro x hx
    rcases List.mem_append.1 hx with hx | hx
    · exact hkeep x (h.data x (by simp [hx]))
    · rcases List.mem_cons.1 hx with rfl | hx
      · exact hkeep _ hd
      · exact hkeep x (h.data x (by simp [hx]))
  · refine List.pairwise_append.2 ⟨hapart.1, List.pairwise_cons.2 ⟨fun x hx => (hap x (Or.inr hx)).symm, hap2.2⟩, fun x hx y hy => ?_⟩
    rcases List.mem_cons.1 hy with rfl | hy
    · exact hap x (Or.inl hx)
    · exact hapart.2.2 x hx y (by simp [hy])
  · intro x hx k hk
    rcases List.mem_append.1 hx with hx | hx
    · exact h.dataIn x (by simp [hx]) k hk
    · rcases List.mem_cons.1 hx with rfl | hx
      · exact hdF k hk
      · exact h.dataIn x (by simp [hx]) k hk

theorem Fr.one (w : World) (b o : Nat) (u : Value) : Fr (fun k => k = b) w (w.setCell ⟨b, o, none⟩ u) := Fr.setCell (p := ⟨b, o, none⟩) (Fr.refl (fun k => k = b) w) (fun _ => rfl) u

/-- A folder behind a pointer has changed. -/
def Chg (w w' : World) (b o : Nat) (F : Nat → Prop) (fs : List Fl) : Prop := ∃ v' zs', Fol w' v' zs' (ext F w w') ∧ zs'.map Ent.fl = fs ∧ Fr F (w.setCell ⟨b, o, none⟩ v') w'
end Go.Proofs.YtjndgekpdmlbiaaGreatDoor.Dk
namespace Go.Proofs.YtjndgekpdmlbiaaGreatDoor.Dk
open Go.RowKit

def put (L : List Value) (o : Nat) (vs : List Value) : List Value := L.take o ++ vs ++ L.drop (o + vs.length)
theorem put_len (L : List Value) (o : Nat) (vs : List Value) (h : o + vs.length ≤ L.length) : (put L o vs).length = L.length := by
  simp [put]; omega
theorem put_get (L : List Value) (o : Nat) (vs : List Value) (h : o + vs.length ≤ L.length) (j : Nat) : (put L o vs)[j]? = if o ≤ j ∧ j < o + vs.length then vs[j - o]? else L[j]? := by
  unfold put
  have hl : (L.take o).length = o := by simp; omega
  by_cases h1 : j < o
  · rw [List.append_assoc, List.getElem?_append_left (by omega), List.getElem?_take, if_pos h1, if_neg (by omega)]
  · by_cases h2 : j < o + vs.length
    · rw [if_pos (by omega), List.append_assoc, List.getElem?_append_right (by omega), hl, List.getElem?_append_left (by omega)]
    · rw [if_neg (by omega), List.getElem?_append_right (by simp; omega)]
      simp only [List.length_append, hl, List.getElem?_drop]
      congr 1
      omega
theorem put_nil (L : List Value) (o : Nat) : put L o [] = L := by simp [put]
theorem put_cons (L : List Value) (o : Nat) (v : Value) (vs : List Value) (h : o + (vs.length + 1) ≤ L.length) : put (L.set o v) (o + 1) vs = put L o (v :: vs) := by
  apply List.ext_getElem?
  intro j
  rw [put_get _ _ _ (by simp; omega), put_get _ _ _ (by simp; omega), List.getElem?_set]
  by_cases h1 : j < o
  · rw [if_neg (by omega), if_neg (by omega), if_neg (by simp; omega)]
  · by_cases h2 : j = o
    · subst h2
      rw [if_neg (by omega), if_pos (by simp)]
      simp
      omega
    · by_cases h3 : j < o + (vs.length + 1)
      · rw [if_pos (by omega), if_pos (by simp; omega)]
        obtain ⟨q, rfl⟩ : ∃ q, j = o + 1 + q := ⟨j - (o + 1), by omega⟩
        rw [Nat.add_sub_cancel_left, show o + 1 + q - o = q + 1 by omega]
        rfl
      · rw [if_neg (by omega), if_neg (by omega), if_neg (by simp; omega)]

theorem heap_setCells {b : Nat} {T : TypeId} {fr : Nat × Nat} : ∀ (vs : List Value) (o : Nat) (w : World) (cs : Array Value), w.heap[b]? = some (.cells cs T fr) → o + vs.length ≤ cs.size → (w.setCells b o vs).heap[b]? = some (.cells (put cs.toList o vs).toArray T fr)
  | [], o, w, cs, h, _ => by simp [World.setCells, put_nil, h]
  | v :: vs, o, w, cs, h, hl => by
    rw [World.setCells, heap_setCells vs (o + 1) _ _ (heap_set h v) (by simp at hl ⊢; omega)]
    rw [Array.toList_setIfInBounds, put_cons _ _ _ _ (by simpa using hl)]
theorem setCells_other {b : Nat} : ∀ (vs : List Value) (o : Nat) (w : World) (k : Nat), k ≠ b → (w.setCells b o vs).heap[k]? = w.heap[k]?
  | [], _, _, _, _ => rfl
  | v :: vs, o, w, k, h => by rw [World.setCells, setCells_other vs _ _ k h, Below.heap_setCell _ _ _ _ h]
theorem setCells_same {b : Nat} : ∀ (vs : List Value) (o : Nat) (w : World), (w.setCells b o vs).os = w.os ∧ (w.setCells b o vs).tape = w.tape ∧ (w.setCells b o vs).output = w.output ∧ (w.setCells b o vs).heap.size = w.heap.size
  | [], _, _ => ⟨rfl, rfl, rfl, rfl⟩
  | v :: vs, o, w => by
    obtain ⟨h1, h2, h3, h4⟩ := setCells_same vs (o + 1) (w.setCell ⟨b, o, none⟩ v)
    exact ⟨h1, h2, h3, h4.trans (by simp [World.setCell])⟩
theorem grown_setCells (b : Nat) (vs : List Value) (o : Nat) (w : World) : w.grownBy (w.setCells b o vs) (some b) := by
  obtain ⟨h1, h2, h3, h4⟩ := setCells_same (b := b) vs o w
  exact ⟨h1, h2, h3, by omega, fun k _ hk => setCells_other vs o w k (fun e => hk (by rw [e]))⟩
theorem grown_drew {w w' : World} {row : Option Nat} (h : w.grownBy w' row) : w.grownBy w'.drew row := ⟨h.os, h.tape, h.output, h.size, h.block⟩
theorem grown_drew_left {w w' : World} {row : Option Nat} (h : w.drew.grownBy w' row) : w.grownBy w' row := ⟨h.os, h.tape, h.output, h.size, h.block⟩

theorem own_of_heap {w : World} {g n cap size : Nat} {e : TypeId} {cur : Array Value} {xs : List Value} (hg : w.heap[g]? = some (.cells cur e (0, 0))) (hn : n ≤ cap) (hc : cap ≤ maxLen) (hs : cur.size = cap * size) (ht : cur.toList.take (n * size) = xs) :
    w.ownsRow 0 e size (.slice (some ⟨g, 0, none⟩) n cap) n xs := by
  refine ⟨?_, Or.inr ⟨g, cap, cur, rfl, Nat.zero_le _, hg, hn, hc, hs, ht⟩⟩
  rw [← ht, List.length_take, Array.length_toList, hs]
  exact Nat.min_eq_left (Nat.mul_le_mul_right _ hn)

variable {P : Program}
theorem run_copy_two (w : World) (dT sT ty elem : TypeId) (i : TypeInfo) (b o dLen dCap : Nat) (a : Addr) (sLen sCap : Nat) (cs : List Value)
    (hu : P.underlying dT = some (.slice elem)) (hq : P.info? elem = some i) (hs : i.size = 2) (hn : cs.length = Nat.min sLen dLen * 2)
    (hsrc : ∀ j v, cs[j]? = some v → w.cell? (a.add j) = some v) (hc : ∀ j, j < cs.length → (w.cell? ⟨b, o + j, none⟩).isSome = true) (hf : ∀ j, j < cs.length → w.frozen? ⟨b, o + j, none⟩ = false) (h1 : ∀ v ∈ cs, v.oneCell' = true) :
    (Builtin.copy_ #[dT, sT] ty #[.slice (some ⟨b, o, none⟩) dLen dCap, .slice (some a) sLen sCap]).run P w = .ok (goInt (Nat.min sLen dLen)) (w.setCells b o cs) := by
  have hl := run_loadCells_list (P := P) w a cs hsrc
  have hst := run_storeCells_cells (P := P) b o cs 0 w (by simpa using hc) (by simpa using hf) h1
  simp [Builtin.copy_, run_underlying hu, Builtin.lenOf, Builtin.firstCells, sizeOf, typeInfo, hq, hs, ← hn, hl, hst]

theorem append_types (w : World) (t e ty t1 t2 e1 e2 : TypeId) (i : TypeInfo) (base : Option Addr) (n c : Nat) (y : Value) (ht : P.underlying t = some (.slice e)) (hi : P.info? e = some i) (h1 : P.underlying t1 = some (.slice e1)) (h2 : P.underlying t2 = some (.slice e2)) :
    (Builtin.append_ #[t, t1] ty #[.slice base n c, y]).run P w = (Builtin.append_ #[t, t2] ty #[.slice base n c, y]).run P w := by
  simp [Builtin.append_, run_underlying ht, run_underlying h1, run_underlying h2, sizeOf, typeInfo, hi]

/-- 'clear' of one element of two cells. -/
theorem run_clear_two (w : World) (t e ty : TypeId) (z a b : Value) (ht : P.underlying t = some (.slice e)) (hv : ∀ w, (zeroValue e).run P w = .ok z w) (hz : z.cells = #[a, b]) (ha : a.oneCell' = true) (hb : b.oneCell' = true) (g o c : Nat)
    (hc : ∀ j, j < 2 → (w.cell? ⟨g, o + j, none⟩).isSome = true) (hf : ∀ j, j < 2 → w.frozen? ⟨g, o + j, none⟩ = false) :
    (Builtin.clear_ #[t] ty #[.slice (some ⟨g, o, none⟩) 1 c]).run P w = .ok (.tuple #[]) (w.setCells g o [a, b]) := by
  have hzc : (Builtin.zeroCells z.cells 1).toList = [a, b] := by
    rw [hz]
    apply List.ext_getElem
    · simp [Builtin.zeroCells]
    · intro i h1 h2
      match i, h2 with
      | 0, _ => simp [Builtin.zeroCells]
      | 1, _ => simp [Builtin.zeroCells]
  have hst := run_storeCells_cells (P := P) g o [a, b] 0 w (by simpa using hc) (by simpa using hf) (by simp [ha, hb])
  simp only [Nat.add_zero] at hst
  simp [Builtin.clear_, run_underlying ht, hv, hzc, hst]
end Go.Proofs.YtjndgekpdmlbiaaGreatDoor.Dk
namespace Go.Proofs.YtjndgekpdmlbiaaGreatDoor.Dk
open Go.RowKit

theorem Tryz.info113 : (Tryz.prog.info? 113).map (fun i => (i.zero, i.size, i.bytes)) = some (some (.agg #[.string ⟨#[]⟩, .slice none 0 0]), 2, 40) := by kernel_rfl

set_option maxHeartbeats 1000000 in
theorem insert_end (v : Value) (n vb : Nat) (xs : List Value) (s d : Value) (w : World) (h : w.ownsRow 0 113 2 v n xs) (hn : n ≤ 1000000000) (hvb : w.heap[vb]? = some (.cells #[s, d] 113 (0, 0))) (hs : s.oneCell' = true) (hd : d.oneCell' = true) :
    Calls Tryz.prog 98 #[v, .int .i64 n, .slice (some ⟨vb, 0, none⟩) 1 1] w fun e w' => ∃ v', e = .returned v' ∧ w'.ownsRow 0 113 2 v' (n + 1) (xs ++ [s, d]) ∧ w.grownBy w' v.ownBlock ∧ (v'.ownBlock = v.ownBlock ∨ v'.ownBlock = some w.heap.size) := by
  obtain ⟨i, hi, hz0, hz1, hz2⟩ := info_parts Tryz.info113
  have hcell : ∀ j u, [s, d][j]? = some u → w.cell? ((⟨vb, 0, none⟩ : Addr).add j) = some u := by
    intro j u hj
    rw [Addr.add_lit, Nat.zero_add, cell_of_row w vb j _ 113 _ hvb]
    simpa using hj
  obtain ⟨v', w', hr, hO, hg, _, hat⟩ := run_append_own_at (P := Tryz.prog) w 0 70 70 113 i _ 2 40 Tryz.underlying70 hi hz0 hz1 hz2 rfl (by decide) v n xs h ⟨vb, 0, none⟩ 1 1 [s, d] rfl hcell (by simp [hs, hd]) (by simp only [maxLen]; omega) (by omega) (Nat.zero_le _)
  have HX : Hid (w'.ownsRow 0 113 2 v' (n + 1) (xs ++ [s, d]) ∧ w.grownBy w' v.ownBlock ∧ (v'.ownBlock = v.ownBlock ∨ v'.ownBlock = some w.heap.size)) := ⟨hO, hg, hat⟩
  clear hO hg hat hcell
  rcases own_shape h with ⟨rfl, rfl⟩ | ⟨g, cap, rfl, hc1, hc2, hc3⟩
  · have hr' : ∀ ty, (Builtin.append_ #[70, 69] ty #[.slice none 0 0, .slice (some ⟨vb, 0, none⟩) 1 1]).run Tryz.prog w = .ok v' w' := fun ty => by
      rw [append_types w 70 113 ty 69 70 113 113 i _ _ _ _ Tryz.underlying70 hi Tryz.underlying69 Tryz.underlying70]
      exact hr
    clear h hr hi hz0 hz1 hz2
    go_enter Tryz.func98, Tryz.ntmps98
    go_wp2_with (at_builtin; refine Lib.wpList_append_run _ rfl _ _ _ _ rfl _ _ rfl rfl _ _ (hr' _) ?_)
    go_ret
    exact ⟨_, rfl, HX.out⟩
  · have hr' : ∀ ty, (Builtin.append_ #[70, 69] ty #[.slice (some ⟨g, 0, none⟩) n cap, .slice (some ⟨vb, 0, none⟩) 1 1]).run Tryz.prog w = .ok v' w' := fun ty => by
      rw [append_types w 70 113 ty 69 70 113 113 i _ _ _ _ Tryz.underlying70 hi Tryz.underlying69 Tryz.underlying70]
      exact hr
    have hc2' : cap ≤ 9223372036854775807 := hc2
    clear h hr hi hz0 hz1 hz2 hc2
    go_enter Tryz.func98, Tryz.ntmps98
    go_wp2_with (at_builtin; refine Lib.wpList_append_run _ rfl _ _ _ _ rfl _ _ rfl rfl _ _ (hr' _) ?_)
    all_goals go_ret
    all_goals exact ⟨_, rfl, HX.out⟩
end Go.Proofs.YtjndgekpdmlbiaaGreatDoor.Dk

/- What a slice of bytes is in memory, and what keeps it: laws on worlds alone, no walk. -/
import Derived.Test.YtnbdkojdddplkaaDoorDkFiles
import Derived.WalkKit
import Derived.Maps.AppendAt
import Derived.Laws.AppendOwnNone
import Derived.Laws.BytesArg
namespace Go.Proofs.YtnbdkojdddplkaaDoor.Dk
open Go.RowKit

def at8 (bs : List UInt8) (j : Nat) : Int := ((bs.getD j 0).toNat : Int)
def cells8 (bs : List UInt8) : List Value := bs.map fun b => .int .u8 (b.toNat : Int)
theorem cells8_len (bs : List UInt8) : (cells8 bs).length = bs.length := by simp [cells8]
theorem cells8_at (bs : List UInt8) (j : Nat) (h : j < bs.length) : (cells8 bs)[j]? = some (.int .u8 (at8 bs j)) := by
  simp [cells8, at8, List.getD, List.getElem?_eq_getElem h]
theorem cells8_one (bs : List UInt8) : ∀ u ∈ cells8 bs, u.oneCell' = true := by
  intro u hu
  obtain ⟨_, _, rfl⟩ := List.mem_map.1 hu
  rfl
theorem cells8_append (a b : List UInt8) : cells8 (a ++ b) = cells8 a ++ cells8 b := by simp [cells8]

/-- A slice value that reads as these bytes. -/
def Sl (w : World) (v : Value) (bs : List UInt8) : Prop :=
  ∃ ao cap, v = .slice ao bs.length cap ∧ bs.length ≤ cap ∧ cap ≤ maxLen ∧ (ao = none → cap = 0) ∧
    (0 < bs.length → ∃ g off, ao = some ⟨g, off, none⟩ ∧ ∀ j, j < bs.length → w.cell? ⟨g, off + j, none⟩ = some (.int .u8 (at8 bs j)))

theorem Sl.nil (w : World) : Sl w (.slice none 0 0) [] := ⟨none, 0, rfl, Nat.le_refl _, by simp [maxLen], fun _ => rfl, fun h => by simp at h⟩

theorem Sl.kept {w w' : World} {v : Value} {bs : List UInt8} (h : Sl w v bs) (hb : ∀ g o n, w.cell? ⟨g, o, none⟩ = some (.int .u8 n) → w'.heap[g]? = w.heap[g]?) : Sl w' v bs := by
  obtain ⟨ao, cap, hv, h1, h2, h3, h4⟩ := h
  refine ⟨ao, cap, hv, h1, h2, h3, fun hp => ?_⟩
  obtain ⟨g, off, ha, hc⟩ := h4 hp
  exact ⟨g, off, ha, fun j hj => (World.cell?_of_block (w := w) (a := ⟨g, off + j, none⟩) (hb g (off + j) _ (hc j hj))).trans (hc j hj)⟩

theorem cell_lt {w : World} {g o : Nat} {u : Value} (h : w.cell? ⟨g, o, none⟩ = some u) : g < w.heap.size := World.block_lt_of_cell? w ⟨g, o, none⟩ h

/-- What is below B stays, whatever is done from B on. -/
theorem Sl.below {w w' : World} {v : Value} {bs : List UInt8} (h : Sl w v bs) (hb : Below w.heap.size w w') : Sl w' v bs :=
  h.kept fun g _ _ hc => hb.block g (cell_lt hc)

theorem Sl.alloc {w : World} {v : Value} {bs : List UInt8} (h : Sl w v bs) (o : Obj) : Sl (w.alloc o) v bs :=
  h.below ((Below.refl _ _).alloc (Nat.le_refl _) o)

/-- The front of a slice. -/
theorem Sl.take {w : World} {ao : Option Addr} {len cap : Nat} {bs : List UInt8} (h : Sl w (.slice ao len cap) bs) (k : Nat) (hk : k ≤ len) : Sl w (.slice ao k cap) (bs.take k) := by
  obtain ⟨ao', cap', hv, h1, h2, h3, h4⟩ := h
  simp only [Value.slice.injEq] at hv
  obtain ⟨rfl, hl, rfl⟩ := hv
  have hlk : (bs.take k).length = k := by simp; omega
  refine ⟨ao, cap, by rw [hlk], by omega, h2, h3, fun hp => ?_⟩
  obtain ⟨g, off, ha, hc⟩ := h4 (by omega)
  refine ⟨g, off, ha, fun j hj => ?_⟩
  rw [hlk] at hj
  rw [hc j (by omega)]
  simp [at8, List.getD, hj]

/-- What is behind the front of a slice. -/
theorem Sl.drop {w : World} {ao : Option Addr} {len cap : Nat} {bs : List UInt8} (h : Sl w (.slice ao len cap) bs) (k : Nat) (hk : k ≤ len) (ao' : Option Addr) (hao : cap ≠ k → ao' = ao.map (·.add k)) (hz : cap = k → ao' = ao) :
    Sl w (.slice ao' (len - k) (cap - k)) (bs.drop k) := by
  obtain ⟨ao2, cap', hv, h1, h2, h3, h4⟩ := h
  simp only [Value.slice.injEq] at hv
  obtain ⟨rfl, hl, rfl⟩ := hv
  have hlk : (bs.drop k).length = len - k := by simp; omega
  refine ⟨ao', cap - k, by rw [hlk], by omega, by omega, fun hn => ?_, fun hp => ?_⟩
  · by_cases hc : cap = k
    · omega
    · rw [hao hc] at hn
      have := h3 (by cases ao <;> simp_all)
      omega
  · have hc : cap ≠ k := by omega
    obtain ⟨g, off, ha, hcell⟩ := h4 (by omega)
    refine ⟨g, off + k, ?_, fun j hj => ?_⟩
    · rw [hao hc, ha]; simp [Addr.add_lit]
    · rw [Nat.add_assoc, hcell (k + j) (by omega)]
      simp [at8, List.getD]

theorem Sl.len {w : World} {ao : Option Addr} {len cap : Nat} {bs : List UInt8} (h : Sl w (.slice ao len cap) bs) : len = bs.length := by
  obtain ⟨_, _, hv, _⟩ := h
  simp only [Value.slice.injEq] at hv
  exact hv.2.1
theorem Sl.shape {w : World} {v : Value} {bs : List UInt8} (h : Sl w v bs) : ∃ ao cap, v = .slice ao bs.length cap ∧ bs.length ≤ cap ∧ cap ≤ maxLen := by
  obtain ⟨ao, cap, hv, h1, h2, _⟩ := h
  exact ⟨ao, cap, hv, h1, h2⟩
theorem Sl.cell {w : World} {ao : Option Addr} {len cap : Nat} {bs : List UInt8} (h : Sl w (.slice ao len cap) bs) (hp : 0 < len) : ∃ g off, ao = some ⟨g, off, none⟩ ∧ ∀ j, j < len → w.cell? ⟨g, off + j, none⟩ = some (.int .u8 (at8 bs j)) := by
  obtain ⟨ao2, cap', hv, h1, h2, h3, h4⟩ := h
  simp only [Value.slice.injEq] at hv
  obtain ⟨rfl, hl, rfl⟩ := hv
  rw [hl] at hp ⊢
  exact h4 hp

/-- An owned row reads as its bytes. -/
theorem Sl.of_own {w : World} {base : Nat} {v : Value} {bs : List UInt8} (h : w.ownsRow base 5 1 v bs.length (cells8 bs)) : Sl w v bs := by
  rcases h.2 with ⟨rfl, h0⟩ | ⟨g, cap, cur, rfl, _, hg, hn, hc, hs, ht⟩
  · have : bs = [] := List.eq_nil_of_length_eq_zero h0
    subst this
    exact Sl.nil w
  · refine ⟨_, cap, rfl, hn, hc, fun e => by simp at e, fun _ => ⟨g, 0, rfl, fun j hj => ?_⟩⟩
    rw [Nat.zero_add]
    rw [h.cellAt j (by omega), cells8_at _ _ hj]

theorem str_of_sl {P : Program} {w : World} {v : Value} {bs : List UInt8} (h : Sl w v bs) (src e dst : TypeId) (hs : P.underlying src = some (.slice e)) (he : P.underlying e = some (.int .u8)) (hd : P.underlying dst = some .string) :
    (convert src dst v).run P w = .ok (.string ⟨bs.toArray⟩) w := by
  obtain ⟨ao, cap, rfl, h1, h2, h3, h4⟩ := h
  by_cases hp : 0 < bs.length
  · obtain ⟨g, off, rfl, hc⟩ := h4 hp
    have := run_convert_bytes_arg (P := P) w src e hs he g off bs.length cap (bs.map fun b => (b.toNat : Int)) (by simp) (fun i hi => by
      rw [hc i hi]; simp [at8, List.getD, List.getElem?_eq_getElem hi]) dst hd
    rw [this]
    congr 1
    congr 1
    unfold strOfNums
    simp only [List.map_map, ByteArray.mk.injEq]
    congr 1
    exact (List.map_congr_left (g := id) fun b _ => by simp).trans (List.map_id _)
  · have : bs = [] := List.eq_nil_of_length_eq_zero (by omega)
    subst this
    cases ao with
    | none => rw [run_convert_bytes_nil (P := P) w src e hs he _ _ dst hd]; rfl
    | some a =>
      rw [List.length_nil, run_convert_bytes_string w src dst e _ _ cap hs he hd, run_bytesToString w a 0 cap [] (by simp [loadCells, loadCellsFrom])]
      rfl

/-- A slice whose place is known, if it has one. -/
def Pl (v : Value) : Prop := v = .slice none 0 0 ∨ ∃ g off n cap, v = .slice (some ⟨g, off, none⟩) n cap
theorem Pl.of_own {w : World} {base : Nat} {v : Value} {bs : List UInt8} (h : w.ownsRow base 5 1 v bs.length (cells8 bs)) : Pl v := by
  rcases h.2 with ⟨rfl, h0⟩ | ⟨g, cap, cur, rfl, _⟩
  · exact Or.inl rfl
  · exact Or.inr ⟨g, 0, _, cap, rfl⟩

theorem grown_refl (w : World) (row : Option Nat) : w.grownBy w row := ⟨rfl, rfl, rfl, Nat.le_refl _, fun _ _ _ => rfl⟩


theorem grown_refl' (w : World) (row : Option Nat) : w.grownBy w row := grown_refl w row

/-- What a call may have turned: blocks of F alone, and new ones. -/
structure Fr (F : Nat → Prop) (w w' : World) : Prop where
  os : w'.os = w.os
  tape : w'.tape = w.tape
  output : w'.output = w.output
  size : w.heap.size ≤ w'.heap.size
  block : ∀ k, k < w.heap.size → ¬ F k → w'.heap[k]? = w.heap[k]?

theorem Fr.refl (F : Nat → Prop) (w : World) : Fr F w w := ⟨rfl, rfl, rfl, Nat.le_refl _, fun _ _ _ => rfl⟩
theorem Fr.trans {F G : Nat → Prop} {a b c : World} (h : Fr F a b) (k : Fr G b c) (hg : ∀ x, x < a.heap.size → G x → F x) : Fr F a c :=
  ⟨k.os.trans h.os, k.tape.trans h.tape, k.output.trans h.output, Nat.le_trans h.size k.size, fun i hi hF => (k.block i (Nat.lt_of_lt_of_le hi h.size) (fun hG => hF (hg i hi hG))).trans (h.block i hi hF)⟩
theorem Fr.mono {F G : Nat → Prop} {a b : World} (h : Fr F a b) (hg : ∀ x, x < a.heap.size → F x → G x) : Fr G a b :=
  ⟨h.os, h.tape, h.output, h.size, fun i hi hG => h.block i hi (fun hF => hG (hg i hi hF))⟩
theorem Fr.of_below {F : Nat → Prop} {w w' : World} (h : Below w.heap.size w w') : Fr F w w' := ⟨h.os, h.tape, h.output, h.size, fun k hk _ => h.block k hk⟩
theorem Fr.below {F : Nat → Prop} {w w' : World} {B : Nat} (h : Fr F w w') (hF : ∀ k, F k → B ≤ k) (hB : B ≤ w.heap.size) : Below B w w' :=
  ⟨h.os, h.tape, h.output, h.size, fun k hk => h.block k (by omega) (fun hk' => by have := hF k hk'; omega)⟩
theorem Fr.of_grown {F : Nat → Prop} {w w' : World} {row : Option Nat} (h : w.grownBy w' row) (hr : ∀ k, row = some k → F k) : Fr F w w' :=
  ⟨h.os, h.tape, h.output, h.size, fun k hk hF => h.block k hk (fun e => hF (hr k e.symm))⟩
theorem Fr.alloc {F : Nat → Prop} {a w : World} (h : Fr F a w) (o : Obj) : Fr F a (w.alloc o) :=
  h.trans (G := F) (Fr.of_below ((Below.refl _ _).alloc (Nat.le_refl _) o)) (fun _ _ h => h)
theorem Fr.drew {F : Nat → Prop} {a w : World} (h : Fr F a w) : Fr F a w.drew := ⟨h.os, h.tape, h.output, h.size, h.block⟩
theorem Fr.setCell {F : Nat → Prop} {a w : World} (h : Fr F a w) {p : Addr} (hp : p.block < a.heap.size → F p.block) (u : Value) : Fr F a (w.setCell p u) :=
  h.trans (G := fun k => k = p.block) ⟨rfl, rfl, rfl, by simp [World.setCell], fun k _ hk => Below.heap_setCell _ _ _ _ hk⟩ (fun _ hx e => by rw [e] at hx ⊢; exact hp hx)
theorem Fr.cell {F : Nat → Prop} {w w' : World} (h : Fr F w w') {p : Addr} {u : Value} (hc : w.cell? p = some u) (hp : ¬ F p.block) : w'.cell? p = some u :=
  (World.cell?_of_block (h.block p.block (World.block_lt_of_cell? w p hc) hp)).trans hc

/-- What was F's, and what is new. -/
def ext (F : Nat → Prop) (w w' : World) : Nat → Prop := fun k => F k ∨ (w.heap.size ≤ k ∧ k < w'.heap.size)

theorem own_kept {F : Nat → Prop} {w w' : World} {base e size n : Nat} {v : Value} {xs : List Value} (h : w.ownsRow base e size v n xs) (hf : Fr F w w') (hn : ∀ k, v.ownBlock = some k → ¬ F k) : w'.ownsRow base e size v n xs := by
  refine ⟨h.1, ?_⟩
  rcases h.2 with hn' | ⟨g, cap, cur, rfl, hb, hgg, rest⟩
  · exact .inl hn'
  · refine .inr ⟨g, cap, cur, rfl, hb, ?_, rest⟩
    rw [hf.block g (Array.getElem?_eq_some_iff.1 hgg).1 (hn g rfl)]
    exact hgg
theorem own_base {w : World} {base base' e size n : Nat} {v : Value} {xs : List Value} (h : w.ownsRow base e size v n xs) (hb : ∀ k, v.ownBlock = some k → base' ≤ k) : w.ownsRow base' e size v n xs := by
  refine ⟨h.1, ?_⟩
  rcases h.2 with hn' | ⟨g, cap, cur, rfl, _, rest⟩
  · exact .inl hn'
  · exact .inr ⟨g, cap, cur, rfl, hb g rfl, rest⟩
theorem own_zero {w : World} {base e size n : Nat} {v : Value} {xs : List Value} (h : w.ownsRow base e size v n xs) : w.ownsRow 0 e size v n xs := own_base h fun _ _ => Nat.zero_le _
theorem own_ne {w : World} {b b' e e' s s' n n' : Nat} {v v' : Value} {xs xs' : List Value} (h : w.ownsRow b e s v n xs) (h' : w.ownsRow b' e' s' v' n' xs') (he : e ≠ e') {k : Nat} (hk : v.ownBlock = some k) : v'.ownBlock ≠ some k := by
  intro hk'
  rcases h.2 with ⟨rfl, _⟩ | ⟨g, cap, cur, rfl, _, hg, _⟩
  · simp [Value.ownBlock] at hk
  · rcases h'.2 with ⟨rfl, _⟩ | ⟨g', cap', cur', rfl, _, hg', _⟩
    · simp [Value.ownBlock] at hk'
    · simp [Value.ownBlock] at hk hk'
      subst hk hk'
      rw [hg] at hg'
      simp at hg'
      exact he hg'.2
theorem own_shape {w : World} {b e s n : Nat} {v : Value} {xs : List Value} (h : w.ownsRow b e s v n xs) : (v = .slice none 0 0 ∧ n = 0) ∨ ∃ g cap, v = .slice (some ⟨g, 0, none⟩) n cap ∧ n ≤ cap ∧ cap ≤ maxLen ∧ g < w.heap.size := by
  rcases h.2 with h | ⟨g, cap, cur, rfl, _, hg, h1, h2, _⟩
  · exact .inl h
  · exact .inr ⟨g, cap, rfl, h1, h2, (Array.getElem?_eq_some_iff.1 hg).1⟩

theorem heap_set {w : World} {b o : Nat} {cs : Array Value} {T : TypeId} {fr : Nat × Nat} (hb : w.heap[b]? = some (.cells cs T fr)) (v : Value) : (w.setCell ⟨b, o, none⟩ v).heap[b]? = some (.cells (cs.setIfInBounds o v) T fr) := by
  simp [World.setCell, Array.getElem?_modify, hb]
theorem setCell_self {w : World} {b o : Nat} {v : Value} (h : w.cell? ⟨b, o, none⟩ = some v) (k : Nat) : (w.setCell ⟨b, o, none⟩ v).heap[k]? = w.heap[k]? := by
  by_cases hk : k = b
  · subst hk
    cases hb : w.heap[k]? with
    | none => simp [World.cell?, hb] at h
    | some ob =>
      cases ob with
      | cells cs T fr =>
        rw [heap_set hb]
        have hv : cs[o]? = some v := by simpa [World.cell?, hb] using h
        have : cs.setIfInBounds o v = cs := by
          apply Array.ext_getElem?
          intro i
          rw [Array.getElem?_setIfInBounds]
          split
          · subst_vars
            obtain ⟨h1, h2⟩ := Array.getElem?_eq_some_iff.1 hv
            simp [h1, h2]
          · rfl
        rw [this]
      | _ => simp [World.cell?, hb] at h
  · exact Below.heap_setCell _ _ _ _ hk
theorem Fr.of_self {F : Nat → Prop} {w w' : World} {b o : Nat} {v : Value} (h : w.cell? ⟨b, o, none⟩ = some v) (hf : Fr F w w') : Fr F (w.setCell ⟨b, o, none⟩ v) w' :=
  ⟨hf.os, hf.tape, hf.output, by simpa [World.setCell] using hf.size, fun k hk hF => by rw [setCell_self h]; exact hf.block k (by simpa [World.setCell] using hk) hF⟩

/-- A file in memory. -/
structure Ent where
  name : ByteArray
  dv : Value
  bs : List UInt8
def Ent.fl (z : Ent) : Fl := ⟨z.name, z.bs⟩
def Ent.cells (z : Ent) : List Value := [.string z.name, z.dv]
def cellsF (zs : List Ent) : List Value := zs.flatMap Ent.cells
theorem cellsF_len : ∀ zs : List Ent, (cellsF zs).length = zs.length * 2
  | [] => rfl
  | z :: r => by
    have := cellsF_len r
    simp [cellsF, Ent.cells] at this ⊢
    omega
theorem cellsF_append (a b : List Ent) : cellsF (a ++ b) = cellsF a ++ cellsF b := by simp [cellsF]
theorem cellsF_cons (z : Ent) (b : List Ent) : cellsF (z :: b) = .string z.name :: z.dv :: cellsF b := by simp [cellsF, Ent.cells]
theorem cellsF_at (l : List Ent) (z : Ent) (r : List Ent) : (cellsF (l ++ z :: r))[l.length * 2]? = some (.string z.name) ∧ (cellsF (l ++ z :: r))[l.length * 2 + 1]? = some z.dv := by
  rw [cellsF_append, cellsF_cons]
  have h := cellsF_len l
  constructor
  · rw [List.getElem?_append_right (by omega), h]; simp
  · rw [List.getElem?_append_right (by omega), h, Nat.add_sub_cancel_left]; rfl
theorem cellsF_get (zs : List Ent) (i : Nat) (h : i < zs.length) : (cellsF zs)[i * 2]? = some (.string zs[i].name) ∧ (cellsF zs)[i * 2 + 1]? = some zs[i].dv := by
  have e : zs = zs.take i ++ zs[i] :: zs.drop (i + 1) := by simp
  have hl : (zs.take i).length = i := by simp; omega
  have := cellsF_at (zs.take i) zs[i] (zs.drop (i + 1))
  rw [← e, hl] at this
  exact this

def Apart (a b : Ent) : Prop := ∀ k, a.dv.ownBlock = some k → b.dv.ownBlock ≠ some k
theorem Apart.symm {a b : Ent} (h : Apart a b) : Apart b a := fun k hb ha => h k ha hb

/-- A folder in memory: its row and its files' rows, all in F, no two in one block. -/
structure Fol (w : World) (v : Value) (zs : List Ent) (F : Nat → Prop) : Prop where
  row : w.ownsRow 0 99 2 v zs.length (cellsF zs)
  data : ∀ z ∈ zs, w.ownsRow 0 5 1 z.dv z.bs.length (cells8 z.bs)
  apart : zs.Pairwise Apart
  rowIn : ∀ k, v.ownBlock = some k → F k
  dataIn : ∀ z ∈ zs, ∀ k, z.dv.ownBlock = some k → F k
  lt : ∀ k, F k → k < w.heap.size

theorem Fol.kept {w w' : World} {v : Value} {zs : List Ent} {F G : Nat → Prop} (h : Fol w v zs F) (hf : Fr G w w') (hd : ∀ k, F k → ¬ G k) : Fol w' v zs F :=
  ⟨own_kept h.row hf fun k hk => hd k (h.rowIn k hk), fun z hz => own_kept (h.data z hz) hf fun k hk => hd k (h.dataIn z hz k hk), h.apart, h.rowIn, h.dataIn, fun k hk => Nat.lt_of_lt_of_le (h.lt k hk) hf.size⟩
theorem Fol.below {w w' : World} {v : Value} {zs : List Ent} {F : Nat → Prop} (h : Fol w v zs F) (hb : Below w.heap.size w w') : Fol w' v zs F :=
  h.kept (G := fun _ => False) (Fr.of_below hb) fun _ _ => id
theorem Fol.mono {w : World} {v : Value} {zs : List Ent} {F G : Nat → Prop} (h : Fol w v zs F) (hg : ∀ k, F k → G k) (hl : ∀ k, G k → k < w.heap.size) : Fol w v zs G :=
  ⟨h.row, h.data, h.apart, fun k hk => hg k (h.rowIn k hk), fun z hz k hk => hg k (h.dataIn z hz k hk), hl⟩
theorem Fol.nil (w : World) (F : Nat → Prop) (h : ∀ k, F k → k < w.heap.size) : Fol w (.slice none 0 0) [] F :=
  ⟨World.ownsRow_nil _ _ _ _, by simp, List.Pairwise.nil, by simp [Value.ownBlock], by simp, h⟩

/-- The cells of a file in its folder's row. -/
theorem Fol.cell {w : World} {g cap n : Nat} {zs : List Ent} {F : Nat → Prop} (h : Fol w (.slice (some ⟨g, 0, none⟩) n cap) zs F) (i : Nat) (hi : i < zs.length) : w.cell? ⟨g, i * 2, none⟩ = some (.string zs[i].name) ∧ w.cell? ⟨g, i * 2 + 1, none⟩ = some zs[i].dv := by
  obtain ⟨hn, _⟩ | ⟨g', cap', e, _⟩ := own_shape h.row
  · simp at hn
  · have hr := h.row
    rw [e] at hr
    simp only [Value.slice.injEq, Option.some.injEq, Addr.mk.injEq, and_true] at e
    obtain ⟨rfl, rfl, rfl⟩ := e
    have := cellsF_get zs i hi
    exact ⟨by rw [hr.cellAt _ (by omega)]; exact this.1, by rw [hr.cellAt _ (by omega)]; exact this.2⟩
theorem Fol.shape {w : World} {v : Value} {zs : List Ent} {F : Nat → Prop} (h : Fol w v zs F) : (v = .slice none 0 0 ∧ zs.length = 0) ∨ ∃ g cap, v = .slice (some ⟨g, 0, none⟩) zs.length cap ∧ zs.length ≤ cap ∧ cap ≤ maxLen ∧ g < w.heap.size := own_shape h.row
theorem Fol.frozen {w : World} {g cap n : Nat} {zs : List Ent} {F : Nat → Prop} (h : Fol w (.slice (some ⟨g, 0, none⟩) n cap) zs F) (j : Nat) : w.frozen? ⟨g, j, none⟩ = false := by
  obtain ⟨hn, _⟩ | ⟨g', cap', e, _⟩ := own_shape h.row
  · simp at hn
  · have hr := h.row
    rw [e] at hr
    simp only [Value.slice.injEq, Option.some.injEq, Addr.mk.injEq, and_true] at e
    obtain ⟨rfl, rfl, rfl⟩ := e
    exact hr.frozenAt j
end Go.Proofs.YtnbdkojdddplkaaDoor.Dk

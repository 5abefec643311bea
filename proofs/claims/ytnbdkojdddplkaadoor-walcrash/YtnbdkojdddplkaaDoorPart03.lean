/- What a folder is behind a change of one file: laws on worlds alone. Rows of elements of two cells: laws on runs and worlds alone. The walks of slices.Insert and slices.Delete at files. The walks of slices.Insert in the middle, and slices.Delete, at files. -/
import Derived.Test.YtnbdkojdddplkaaDoorPart02
import Derived.Laws.IdiomCopy
import Derived.Deep.AppendSrc
import Derived.Lib.AppendZerosOnto
import Derived.Lib.Overlaps
import Derived.Lib.AppendZeros
import Derived.Test.YtnbdkojdddplkaaDoorRows
import Derived.WalkKit
import Derived.BigQuiet
import Derived.Deep.RegionLaw
import Derived.Laws.Externs
import Derived.Lib.SliceRun
namespace Go.Proofs.YtnbdkojdddplkaaDoor.Dk
open Go.RowKit

theorem own_one {w : World} {b e s n : Nat} {v : Value} {xs : List Value} (h : w.ownsRow b e s v n xs) : v.oneCell' = true := by
  rcases own_shape h with ⟨rfl, _⟩ | ⟨g, cap, rfl, _⟩ <;> rfl
theorem own_slice {w : World} {b e s n : Nat} {v : Value} {xs : List Value} (h : w.ownsRow b e s v n xs) : ∃ ao L cap, v = .slice ao L cap := by
  rcases own_shape h with ⟨rfl, _⟩ | ⟨g, cap, rfl, _⟩ <;> exact ⟨_, _, _, rfl⟩
theorem Fol.ones {w : World} {v : Value} {zs : List Ent} {F : Nat → Prop} (h : Fol w v zs F) : ∀ u ∈ cellsF zs, u.oneCell' = true := by
  intro u hu
  obtain ⟨z, hz, hu⟩ := List.mem_flatMap.1 hu
  simp [Ent.cells] at hu
  rcases hu with rfl | rfl
  · rfl
  · exact own_one (h.data z hz)
theorem cellsF_take (a b : List Ent) : (cellsF (a ++ b)).take (a.length * 2) = cellsF a := by
  rw [cellsF_append, ← cellsF_len a, List.take_left]
theorem cellsF_drop (a b : List Ent) : (cellsF (a ++ b)).drop (a.length * 2) = cellsF b := by
  rw [cellsF_append, ← cellsF_len a, List.drop_left]
theorem cellsF_drop1 (a : List Ent) (z : Ent) (b : List Ent) : (cellsF (a ++ z :: b)).drop ((a.length + 1) * 2) = cellsF b := by
  rw [show a ++ z :: b = (a ++ [z]) ++ b by simp, show a.length + 1 = (a ++ [z]).length by simp, cellsF_drop]
theorem cellsF_set (a : List Ent) (z : Ent) (b : List Ent) (d : Value) (bs : List UInt8) : (cellsF (a ++ z :: b)).set (a.length * 2 + 1) d = cellsF (a ++ ⟨z.name, d, bs⟩ :: b) := by
  rw [cellsF_append, cellsF_append, cellsF_cons, cellsF_cons, List.set_append_right _ _ (by rw [cellsF_len]; omega), cellsF_len, Nat.add_sub_cancel_left]
  rfl

theorem ext_lt {F : Nat → Prop} {w w' : World} (hF : ∀ k, F k → k < w.heap.size) (hs : w.heap.size ≤ w'.heap.size) : ∀ k, ext F w w' k → k < w'.heap.size := by
  intro k hk
  rcases hk with hk | hk
  · have := hF k hk; omega
  · exact hk.2
theorem Fr.set_both {F : Nat → Prop} {w w' : World} (h : Fr F w w') (a : Addr) (u : Value) : Fr F (w.setCell a u) (w'.setCell a u) := by
  refine ⟨h.os, h.tape, h.output, by simpa [World.setCell] using h.size, fun k hk hF => ?_⟩
  have hb := h.block k (by simpa [World.setCell] using hk) hF
  simp only [World.setCell, Array.getElem?_modify, hb]

/-- Slices that lie aside. -/
structure SlA (w : World) (v : Value) (bs : List UInt8) (G : Nat → Prop) : Prop where
  sl : Sl w v bs
  away : ∀ a n c, v = .slice (some a) n c → ¬ G a.block
theorem SlA.kept {w w' : World} {v : Value} {bs : List UInt8} {G : Nat → Prop} (h : SlA w v bs G) (hf : Fr G w w') : SlA w' v bs G := by
  refine ⟨?_, h.away⟩
  obtain ⟨ao, cap, hv, h1, h2, h3, h4⟩ := h.sl
  refine ⟨ao, cap, hv, h1, h2, h3, fun hp => ?_⟩
  obtain ⟨g, off, ha, hc⟩ := h4 hp
  subst ha
  have ha : ¬ G g := h.away ⟨g, off, none⟩ _ _ hv
  exact ⟨g, off, rfl, fun j hj => hf.cell (hc j hj) ha⟩
theorem SlA.mono {w : World} {v : Value} {bs : List UInt8} {G H : Nat → Prop} (h : SlA w v bs G) (hg : ∀ k, H k → G k) : SlA w v bs H := ⟨h.sl, fun a n c hv hH => h.away a n c hv (hg _ hH)⟩
theorem SlA.of_own {w : World} {b : Nat} {v : Value} {bs : List UInt8} {G : Nat → Prop} (h : w.ownsRow b 5 1 v bs.length (cells8 bs)) (hg : ∀ k, v.ownBlock = some k → ¬ G k) : SlA w v bs G :=
  ⟨Sl.of_own h, fun a n c hv => hg _ (by rw [hv]; rfl)⟩

/-- The bytes of one file have changed: its new slice is stored. -/
theorem Fol.put {w w2 : World} {g N cap : Nat} {zl : List Ent} {z : Ent} {zr : List Ent} {F : Nat → Prop} (h : Fol w (.slice (some ⟨g, 0, none⟩) N cap) (zl ++ z :: zr) F) (d : Value) (bs : List UInt8)
    (hd : w2.ownsRow 0 5 1 d bs.length (cells8 bs)) (hg : w.grownBy w2 z.dv.ownBlock) (hb : d.ownBlock = z.dv.ownBlock ∨ (∃ k, d.ownBlock = some k ∧ w.heap.size ≤ k)) :
    Fol (w2.setCell ⟨g, zl.length * 2 + 1, none⟩ d) (.slice (some ⟨g, 0, none⟩) N cap) (zl ++ ⟨z.name, d, bs⟩ :: zr) (ext F w (w2.setCell ⟨g, zl.length * 2 + 1, none⟩ d)) ∧ Fr F w (w2.setCell ⟨g, zl.length * 2 + 1, none⟩ d) ∧ w2.cell? ⟨g, zl.length * 2 + 1, none⟩ = some z.dv ∧ w2.frozen? ⟨g, zl.length * 2 + 1, none⟩ = false := by
  have hz : z ∈ zl ++ z :: zr := by simp
  have hgz : z.dv.ownBlock ≠ some g := own_ne h.row (h.data z hz) (by decide) rfl
  have hN : N = (zl ++ z :: zr).length := by
    rcases h.shape with ⟨e, _⟩ | ⟨_, _, e, _⟩
    · simp at e
    · simp only [Value.slice.injEq] at e; exact e.2.1
  subst hN
  have hrow2 : w2.ownsRow 0 99 2 (.slice (some ⟨g, 0, none⟩) (zl ++ z :: zr).length cap) (zl ++ z :: zr).length (cellsF (zl ++ z :: zr)) := h.row.kept hg (Or.inr (fun e => hgz e.symm))
  have hst := hrow2.stored (zl.length * 2 + 1) d
  have hgd : ∀ k, d.ownBlock = some k → k ≠ g := fun k hk e => own_ne hrow2 hd (by decide) rfl (by rw [hk, e])
  have hfr : Fr F w (w2.setCell ⟨g, zl.length * 2 + 1, none⟩ d) :=
    Fr.setCell (Fr.of_grown hg (fun k hk => h.dataIn z hz k hk)) (fun _ => h.rowIn g rfl) d
  have hsz : w.heap.size ≤ (w2.setCell ⟨g, zl.length * 2 + 1, none⟩ d).heap.size := hfr.size
  have hlt : ∀ k, d.ownBlock = some k → k < (w2.setCell ⟨g, zl.length * 2 + 1, none⟩ d).heap.size := fun k hk => by
    have := (hd.lt k hk).2
    simpa [World.setCell] using this
  have hnew : ∀ k, d.ownBlock = some k → ext F w (w2.setCell ⟨g, zl.length * 2 + 1, none⟩ d) k := fun k hk => by
    rcases hb with hb | ⟨k', hk', hge⟩
    · exact Or.inl (h.dataIn z hz k (by rw [← hb]; exact hk))
    · rw [hk] at hk'
      cases hk'
      exact Or.inr ⟨hge, hlt k hk⟩
  have hapart := List.pairwise_append.1 h.apart
  have hap2 := List.pairwise_cons.1 hapart.2.1
  have hAz : ∀ x : Ent, x ∈ zl ∨ x ∈ zr → Apart x ⟨z.name, d, bs⟩ := fun x hx k hk hk' => by
    have hxz : Apart x z := by
      rcases hx with hx | hx
      · exact hapart.2.2 x hx z (by simp)
      · exact (hap2.1 x hx).symm
    rcases hb with hb | ⟨k2, hk2, hge⟩
    · exact hxz k hk (by rw [← hb]; exact hk')
    · simp only at hk'
      rw [hk'] at hk2
      cases hk2
      have hxm : x ∈ zl ++ z :: zr := by
        rcases hx with hx | hx <;> simp [hx]
      have := h.lt k (h.dataIn x hxm k hk)
      omega
  have hdata : ∀ x : Ent, x ∈ zl ∨ x ∈ zr → (w2.setCell ⟨g, zl.length * 2 + 1, none⟩ d).ownsRow 0 5 1 x.dv x.bs.length (cells8 x.bs) := fun x hx => by
    have hxm : x ∈ zl ++ z :: zr := by
      rcases hx with hx | hx <;> simp [hx]
    have hxz : Apart x z := by
      rcases hx with hx | hx
      · exact hapart.2.2 x hx z (by simp)
      · exact (hap2.1 x hx).symm
    have h2 := (h.data x hxm).kept hg (by
      cases hxo : x.dv.ownBlock with
      | none => exact Or.inl rfl
      | some k => exact Or.inr (fun e => hxz k hxo e.symm))
    refine h2.kept hst.2 (Or.inr fun e => ?_)
    exact own_ne h.row (h.data x hxm) (by decide) rfl e
  refine ⟨⟨?_, ?_, ?_, ?_, ?_, ext_lt h.lt hsz⟩, hfr, ?_, hrow2.frozenAt _⟩
  · have e := hst.1
    rw [cellsF_set zl z zr d bs] at e
    have hl : (zl ++ z :: zr).length = (zl ++ (⟨z.name, d, bs⟩ : Ent) :: zr).length := by simp
    rw [← hl]
    exact e
  · intro x hx
    rcases List.mem_append.1 hx with hx | hx
    · exact hdata x (Or.inl hx)
    · rcases List.mem_cons.1 hx with rfl | hx
      · exact hd.kept hst.2 (by
          cases hdo : d.ownBlock with
          | none => exact Or.inl rfl
          | some k => exact Or.inr (fun e => hgd k hdo (by simpa using e)))
      · exact hdata x (Or.inr hx)
  · refine List.pairwise_append.2 ⟨hapart.1, List.pairwise_cons.2 ⟨fun x hx => (hAz x (Or.inr hx)).symm, hap2.2⟩, fun x hx y hy => ?_⟩
    rcases List.mem_cons.1 hy with rfl | hy
    · exact hAz x (Or.inl hx)
    · exact hapart.2.2 x hx y (by simp [hy])
  · exact fun k hk => Or.inl (h.rowIn k hk)
  · intro x hx k hk
    rcases List.mem_append.1 hx with hx | hx
    · exact Or.inl (h.dataIn x (by simp [hx]) k hk)
    · rcases List.mem_cons.1 hx with rfl | hx
      · exact hnew k hk
      · exact Or.inl (h.dataIn x (by simp [hx]) k hk)
  · have := hrow2.cellAt (zl.length * 2 + 1) (by simp; omega)
    rw [this]
    exact (cellsF_at zl z zr).2

/-- A file has come in. -/
theorem Fol.inserted {w w' : World} {v v' : Value} {zl zr : List Ent} {F : Nat → Prop} (h : Fol w v (zl ++ zr) F) (n : ByteArray) (d : Value) (bs : List UInt8)
    (hrow : w'.ownsRow 0 99 2 v' ((zl ++ zr).length + 1) ((cellsF (zl ++ zr)).take (zl.length * 2) ++ [.string n, d] ++ (cellsF (zl ++ zr)).drop (zl.length * 2))) (hg : w.grownBy w' v.ownBlock) (hv : v'.ownBlock = v.ownBlock ∨ (∃ k, v'.ownBlock = some k ∧ w.heap.size ≤ k))
    (hd : w.ownsRow 0 5 1 d bs.length (cells8 bs)) (hdF : ∀ k, d.ownBlock = some k → F k) (hap : ∀ x ∈ zl ++ zr, Apart x ⟨n, d, bs⟩) : Fol w' v' (zl ++ ⟨n, d, bs⟩ :: zr) (ext F w w') := by
  have hkeep : ∀ (x : Ent), w.ownsRow 0 5 1 x.dv x.bs.length (cells8 x.bs) → w'.ownsRow 0 5 1 x.dv x.bs.length (cells8 x.bs) := fun x hx => by
    refine hx.kept hg ?_
    cases hxo : x.dv.ownBlock with
    | none => exact Or.inl rfl
    | some k => exact Or.inr (fun e => own_ne hx h.row (by decide) hxo e.symm)
  have hapart := List.pairwise_append.1 h.apart
  refine ⟨?_, ?_, ?_, ?_, ?_, ext_lt h.lt hg.size⟩
  · rw [cellsF_take, cellsF_drop] at hrow
    have e : cellsF (zl ++ ⟨n, d, bs⟩ :: zr) = cellsF zl ++ [.string n, d] ++ cellsF zr := by
      rw [cellsF_append, cellsF_cons, List.append_assoc]
      rfl
    rw [e]
    have hl : (zl ++ (⟨n, d, bs⟩ : Ent) :: zr).length = (zl ++ zr).length + 1 := by simp; omega
    rw [hl]
    exact hrow
  · intro x hx
    rcases List.mem_append.1 hx with hx | hx
    · exact hkeep x (h.data x (by simp [hx]))
    · rcases List.mem_cons.1 hx with rfl | hx
      · exact hkeep _ hd
      · exact hkeep x (h.data x (by simp [hx]))
  · refine List.pairwise_append.2 ⟨hapart.1, List.pairwise_cons.2 ⟨fun x hx => (hap x (by simp [hx])).symm, hapart.2.1⟩, fun x hx y hy => ?_⟩
    rcases List.mem_cons.1 hy with rfl | hy
    · exact hap x (by simp [hx])
    · exact hapart.2.2 x hx y hy
  · intro k hk
    rcases hv with hv | ⟨k', hk', hge⟩
    · exact Or.inl (h.rowIn k (by rw [← hv]; exact hk))
    · rw [hk] at hk'
      cases hk'
      exact Or.inr ⟨hge, (hrow.lt k hk).2⟩
  · intro x hx k hk
    rcases List.mem_append.1 hx with hx | hx
    · exact Or.inl (h.dataIn x (by simp [hx]) k hk)
    · rcases List.mem_cons.1 hx with rfl | hx
      · exact Or.inl (hdF k hk)
      · exact Or.inl (h.dataIn x (by simp [hx]) k hk)

/-- A file has gone. -/
theorem Fol.deleted {w w' : World} {v v' : Value} {zl : List Ent} {z : Ent} {zr : List Ent} {F : Nat → Prop} (h : Fol w v (zl ++ z :: zr) F)
    (hrow : w'.ownsRow 0 99 2 v' ((zl ++ z :: zr).length - 1) ((cellsF (zl ++ z :: zr)).take (zl.length * 2) ++ (cellsF (zl ++ z :: zr)).drop ((zl.length + 1) * 2))) (hg : w.grownBy w' v.ownBlock) (hv : v'.ownBlock = v.ownBlock) : Fol w' v' (zl ++ zr) F := by
  have hkeep : ∀ (x : Ent), w.ownsRow 0 5 1 x.dv x.bs.length (cells8 x.bs) → w'.ownsRow 0 5 1 x.dv x.bs.length (cells8 x.bs) := fun x hx => by
    refine hx.kept hg ?_
    cases hxo : x.dv.ownBlock with
    | none => exact Or.inl rfl
    | some k => exact Or.inr (fun e => own_ne hx h.row (by decide) hxo e.symm)
  have hm : ∀ x ∈ zl ++ zr, x ∈ zl ++ z :: zr := fun x hx => by
    rcases List.mem_append.1 hx with hx | hx <;> simp [hx]
  refine ⟨?_, fun x hx => hkeep x (h.data x (hm x hx)), h.apart.sublist (by simp), fun k hk => h.rowIn k (by rw [← hv]; exact hk), fun x hx => h.dataIn x (hm x hx), fun k hk => Nat.lt_of_lt_of_le (h.lt k hk) hg.size⟩
  rw [cellsF_take, cellsF_drop1, ← cellsF_append] at hrow
  have hl : (zl ++ z :: zr).length - 1 = (zl ++ zr).length := by simp
  rw [hl] at hrow
  exact hrow

theorem ext_from {F : Nat → Prop} {w w1 w' : World} (h : w.heap.size ≤ w1.heap.size) : ∀ k, ext F w1 w' k → ext F w w' k := fun k hk => by
  rcases hk with hk | hk
  · exact Or.inl hk
  · exact Or.inr ⟨by omega, hk.2⟩
theorem ext_ext {F : Nat → Prop} {w w1 w2 w3 : World} (h1 : w.heap.size ≤ w1.heap.size) (h2 : w1.heap.size ≤ w2.heap.size) (h3 : w2.heap.size ≤ w3.heap.size) : ∀ k, ext (ext F w1 w2) w2 w3 k → ext F w w3 k := fun k hk => by
  rcases hk with (hk | hk) | hk
  · exact Or.inl hk
  · exact Or.inr ⟨by omega, by omega⟩
  · exact Or.inr ⟨by omega, hk.2⟩
theorem Fr.frozen {F : Nat → Prop} {w w' : World} (h : Fr F w w') {p : Addr} {u : Value} (hc : w.cell? p = some u) (hp : ¬ F p.block) : w'.frozen? p = w.frozen? p :=
  World.frozen?_of_block (h.block p.block (World.block_lt_of_cell? w p hc) hp)
theorem setCell_size (w : World) (a : Addr) (u : Value) : (w.setCell a u).heap.size = w.heap.size := by simp [World.setCell]
theorem setCell_twice (w : World) (b o : Nat) (x y : Value) (k : Nat) : ((w.setCell ⟨b, o, none⟩ x).setCell ⟨b, o, none⟩ y).heap[k]? = (w.setCell ⟨b, o, none⟩ y).heap[k]? := by
  simp only [World.setCell, Array.getElem?_modify]
  split
  · cases w.heap[k]? with
    | none => rfl
    | some ob => cases ob <;> simp
  · rfl
/-- One change of a pointed-to slice behind another. -/
theorem Fr.then {F G : Nat → Prop} {w w1 w2 : World} {b o : Nat} {x y : Value} (h : Fr F (w.setCell ⟨b, o, none⟩ x) w1) (k : Fr G (w1.setCell ⟨b, o, none⟩ y) w2) (hg : ∀ i, i < w.heap.size → G i → F i) : Fr F (w.setCell ⟨b, o, none⟩ y) w2 := by
  have h2 := (h.set_both ⟨b, o, none⟩ y).trans k (fun i hi hG => hg i (by simpa [World.setCell] using hi) hG)
  refine ⟨h2.os, h2.tape, h2.output, by simpa [World.setCell] using h2.size, fun i hi hF => ?_⟩
  rw [h2.block i (by simpa [World.setCell] using hi) hF, setCell_twice]
/-- What the pointed-to slice is behind a change. -/
theorem Fr.at {G : Nat → Prop} {w w' : World} {b o : Nat} {v v' : Value} (h : Fr G (w.setCell ⟨b, o, none⟩ v') w') (hc : w.cell? ⟨b, o, none⟩ = some v) (hb : ¬ G b) : w'.cell? ⟨b, o, none⟩ = some v' ∧ w'.frozen? ⟨b, o, none⟩ = w.frozen? ⟨b, o, none⟩ := by
  have h1 := World.cell?_setCell_same (w := w) (a := ⟨b, o, none⟩) (v := v') hc
  exact ⟨h.cell h1 hb, (h.frozen h1 hb).trans (World.frozen?_setCell _ _ _ _)⟩

/-- A file is stored in its folder's row. -/
theorem Fol.set {w : World} {g N cap : Nat} {zl : List Ent} {z : Ent} {zr : List Ent} {F : Nat → Prop} (h : Fol w (.slice (some ⟨g, 0, none⟩) N cap) (zl ++ z :: zr) F) (n : ByteArray) (d : Value) (bs : List UInt8)
    (hd : w.ownsRow 0 5 1 d bs.length (cells8 bs)) (hdF : ∀ k, d.ownBlock = some k → F k) (hap : ∀ x : Ent, x ∈ zl ∨ x ∈ zr → Apart x ⟨n, d, bs⟩) :
    Fol ((w.setCell ⟨g, zl.length * 2, none⟩ (.string n)).setCell ⟨g, zl.length * 2 + 1, none⟩ d) (.slice (some ⟨g, 0, none⟩) N cap) (zl ++ ⟨n, d, bs⟩ :: zr) F := by
  have hN : N = (zl ++ z :: zr).length := by
    rcases h.shape with ⟨e, _⟩ | ⟨_, _, e, _⟩
    · simp at e
    · simp only [Value.slice.injEq] at e; exact e.2.1
  subst hN
  have h1 := h.row.stored (zl.length * 2) (.string n)
  have h2 := h1.1.stored (zl.length * 2 + 1) d
  have hg := h1.2.trans h2.2
  have hapart := List.pairwise_append.1 h.apart
  have hap2 := List.pairwise_cons.1 hapart.2.1
  have hkeep : ∀ (x : Ent), w.ownsRow 0 5 1 x.dv x.bs.length (cells8 x.bs) → ((w.setCell ⟨g, zl.length * 2, none⟩ (.string n)).setCell ⟨g, zl.length * 2 + 1, none⟩ d).ownsRow 0 5 1 x.dv x.bs.length (cells8 x.bs) := fun x hx => by
    refine hx.kept hg ?_
    cases hxo : x.dv.ownBlock with
    | none => exact Or.inl rfl
    | some k => exact Or.inr (fun e => own_ne hx h.row (by decide) hxo e.symm)
  refine ⟨?_, ?_, ?_, h.rowIn, ?_, fun k hk => Nat.lt_of_lt_of_le (h.lt k hk) hg.size⟩
  · have e := h2.1
    have e2 : ((cellsF (zl ++ z :: zr)).set (zl.length * 2) (.string n)).set (zl.length * 2 + 1) d = cellsF (zl ++ ⟨n, d, bs⟩ :: zr) := by
      rw [cellsF_append, cellsF_append, cellsF_cons, cellsF_cons, List.set_append_right _ _ (by rw [cellsF_len]; omega), cellsF_len, Nat.sub_self, List.set_append_right _ _ (by rw [cellsF_len]; omega), cellsF_len, Nat.add_sub_cancel_left]
      rfl
    rw [e2] at e
    have hl : (zl ++ z :: zr).length = (zl ++ (⟨n, d, bs⟩ : Ent) :: zr).length := by simp
    rw [← hl]
    exact e
  · intro x hx
    rcases List.mem_append.1 hx with hx | hx
    · exact hkeep x (h.data x (by simp [hx]))
    · rcases List.mem_cons.1 hx with rfl | hx
      · exact hkeep _ hd
      · exact hkeep x (h.data x (by simp [hx]))
  · refine List.pairwise_append.2 ⟨hapart.1, List.pairwise_cons.2 ⟨fun x hx => (hap x (Or.inr hx)).symm, hap2.2⟩, fun x hx y hy => ?_⟩
    rcases List.mem_cons.1 hy with rfl | hy
    · exact hap x (Or.inl hx)
    · exact hapart.2.2 x hx y (by simp [hy])
  · intro x hx k hk
    rcases List.mem_append.1 hx with hx | hx
    · exact h.dataIn x (by simp [hx]) k hk
    · rcases List.mem_cons.1 hx with rfl | hx
      · exact hdF k hk
      · exact h.dataIn x (by simp [hx]) k hk

theorem Fr.one (w : World) (b o : Nat) (u : Value) : Fr (fun k => k = b) w (w.setCell ⟨b, o, none⟩ u) := Fr.setCell (p := ⟨b, o, none⟩) (Fr.refl (fun k => k = b) w) (fun _ => rfl) u

/-- A folder behind a pointer has changed. -/
def Chg (w w' : World) (b o : Nat) (F : Nat → Prop) (fs : List Fl) : Prop := ∃ v' zs', Fol w' v' zs' (ext F w w') ∧ zs'.map Ent.fl = fs ∧ Fr F (w.setCell ⟨b, o, none⟩ v') w'
end Go.Proofs.YtnbdkojdddplkaaDoor.Dk
namespace Go.Proofs.YtnbdkojdddplkaaDoor.Dk
open Go.RowKit

def put (L : List Value) (o : Nat) (vs : List Value) : List Value := L.take o ++ vs ++ L.drop (o + vs.length)
theorem put_len (L : List Value) (o : Nat) (vs : List Value) (h : o + vs.length ≤ L.length) : (put L o vs).length = L.length := by
  simp [put]; omega
theorem put_get (L : List Value) (o : Nat) (vs : List Value) (h : o + vs.length ≤ L.length) (j : Nat) : (put L o vs)[j]? = if o ≤ j ∧ j < o + vs.length then vs[j - o]? else L[j]? := by
  unfold put
  have hl : (L.take o).length = o := by simp; omega
  by_cases h1 : j < o
  · rw [List.append_assoc, List.getElem?_append_left (by omega), List.getElem?_take, if_pos h1, if_neg (by omega)]
  · by_cases h2 : j < o + vs.length
    · rw [if_pos (by omega), List.append_assoc, List.getElem?_append_right (by omega), hl, List.getElem?_append_left (by omega)]
    · rw [if_neg (by omega), List.getElem?_append_right (by simp; omega)]
      simp only [List.length_append, hl, List.getElem?_drop]
      congr 1
      omega
theorem put_nil (L : List Value) (o : Nat) : put L o [] = L := by simp [put]
theorem put_cons (L : List Value) (o : Nat) (v : Value) (vs : List Value) (h : o + (vs.length + 1) ≤ L.length) : put (L.set o v) (o + 1) vs = put L o (v :: vs) := by
  apply List.ext_getElem?
  intro j
  rw [put_get _ _ _ (by simp; omega), put_get _ _ _ (by simp; omega), List.getElem?_set]
  by_cases h1 : j < o
  · rw [if_neg (by omega), if_neg (by omega), if_neg (by simp; omega)]
  · by_cases h2 : j = o
    · subst h2
      rw [if_neg (by omega), if_pos (by simp)]
      simp
      omega
    · by_cases h3 : j < o + (vs.length + 1)
      · rw [if_pos (by omega), if_pos (by simp; omega)]
        obtain ⟨q, rfl⟩ : ∃ q, j = o + 1 + q := ⟨j - (o + 1), by omega⟩
        rw [Nat.add_sub_cancel_left, show o + 1 + q - o = q + 1 by omega]
        rfl
      · rw [if_neg (by omega), if_neg (by omega), if_neg (by simp; omega)]

theorem heap_setCells {b : Nat} {T : TypeId} {fr : Nat × Nat} : ∀ (vs : List Value) (o : Nat) (w : World) (cs : Array Value), w.heap[b]? = some (.cells cs T fr) → o + vs.length ≤ cs.size → (w.setCells b o vs).heap[b]? = some (.cells (put cs.toList o vs).toArray T fr)
  | [], o, w, cs, h, _ => by simp [World.setCells, put_nil, h]
  | v :: vs, o, w, cs, h, hl => by
    rw [World.setCells, heap_setCells vs (o + 1) _ _ (heap_set h v) (by simp at hl ⊢; omega)]
    rw [Array.toList_setIfInBounds, put_cons _ _ _ _ (by simpa using hl)]
theorem setCells_other {b : Nat} : ∀ (vs : List Value) (o : Nat) (w : World) (k : Nat), k ≠ b → (w.setCells b o vs).heap[k]? = w.heap[k]?
  | [], _, _, _, _ => rfl
  | v :: vs, o, w, k, h => by rw [World.setCells, setCells_other vs _ _ k h, Below.heap_setCell _ _ _ _ h]
theorem setCells_same {b : Nat} : ∀ (vs : List Value) (o : Nat) (w : World), (w.setCells b o vs).os = w.os ∧ (w.setCells b o vs).tape = w.tape ∧ (w.setCells b o vs).output = w.output ∧ (w.setCells b o vs).heap.size = w.heap.size
  | [], _, _ => ⟨rfl, rfl, rfl, rfl⟩
  | v :: vs, o, w => by
    obtain ⟨h1, h2, h3, h4⟩ := setCells_same vs (o + 1) (w.setCell ⟨b, o, none⟩ v)
    exact ⟨h1, h2, h3, h4.trans (by simp [World.setCell])⟩
theorem grown_setCells (b : Nat) (vs : List Value) (o : Nat) (w : World) : w.grownBy (w.setCells b o vs) (some b) := by
  obtain ⟨h1, h2, h3, h4⟩ := setCells_same (b := b) vs o w
  exact ⟨h1, h2, h3, by omega, fun k _ hk => setCells_other vs o w k (fun e => hk (by rw [e]))⟩
theorem grown_drew {w w' : World} {row : Option Nat} (h : w.grownBy w' row) : w.grownBy w'.drew row := ⟨h.os, h.tape, h.output, h.size, h.block⟩
theorem grown_drew_left {w w' : World} {row : Option Nat} (h : w.drew.grownBy w' row) : w.grownBy w' row := ⟨h.os, h.tape, h.output, h.size, h.block⟩

theorem own_of_heap {w : World} {g n cap size : Nat} {e : TypeId} {cur : Array Value} {xs : List Value} (hg : w.heap[g]? = some (.cells cur e (0, 0))) (hn : n ≤ cap) (hc : cap ≤ maxLen) (hs : cur.size = cap * size) (ht : cur.toList.take (n * size) = xs) :
    w.ownsRow 0 e size (.slice (some ⟨g, 0, none⟩) n cap) n xs := by
  refine ⟨?_, Or.inr ⟨g, cap, cur, rfl, Nat.zero_le _, hg, hn, hc, hs, ht⟩⟩
  rw [← ht, List.length_take, Array.length_toList, hs]
  exact Nat.min_eq_left (Nat.mul_le_mul_right _ hn)

variable {P : Program}
theorem run_copy_two (w : World) (dT sT ty elem : TypeId) (i : TypeInfo) (b o dLen dCap : Nat) (a : Addr) (sLen sCap : Nat) (cs : List Value)
    (hu : P.underlying dT = some (.slice elem)) (hq : P.info? elem = some i) (hs : i.size = 2) (hn : cs.length = Nat.min sLen dLen * 2)
    (hsrc : ∀ j v, cs[j]? = some v → w.cell? (a.add j) = some v) (hc : ∀ j, j < cs.length → (w.cell? ⟨b, o + j, none⟩).isSome = true) (hf : ∀ j, j < cs.length → w.frozen? ⟨b, o + j, none⟩ = false) (h1 : ∀ v ∈ cs, v.oneCell' = true) :
    (Builtin.copy_ #[dT, sT] ty #[.slice (some ⟨b, o, none⟩) dLen dCap, .slice (some a) sLen sCap]).run P w = .ok (goInt (Nat.min sLen dLen)) (w.setCells b o cs) := by
  have hl := run_loadCells_list (P := P) w a cs hsrc
  have hst := run_storeCells_cells (P := P) b o cs 0 w (by simpa using hc) (by simpa using hf) h1
  simp [Builtin.copy_, run_underlying hu, Builtin.lenOf, Builtin.firstCells, sizeOf, typeInfo, hq, hs, ← hn, hl, hst]

theorem append_types (w : World) (t e ty t1 t2 e1 e2 : TypeId) (i : TypeInfo) (base : Option Addr) (n c : Nat) (y : Value) (ht : P.underlying t = some (.slice e)) (hi : P.info? e = some i) (h1 : P.underlying t1 = some (.slice e1)) (h2 : P.underlying t2 = some (.slice e2)) :
    (Builtin.append_ #[t, t1] ty #[.slice base n c, y]).run P w = (Builtin.append_ #[t, t2] ty #[.slice base n c, y]).run P w := by
  simp [Builtin.append_, run_underlying ht, run_underlying h1, run_underlying h2, sizeOf, typeInfo, hi]

/-- 'clear' of one element of two cells. -/
theorem run_clear_two (w : World) (t e ty : TypeId) (z a b : Value) (ht : P.underlying t = some (.slice e)) (hv : ∀ w, (zeroValue e).run P w = .ok z w) (hz : z.cells = #[a, b]) (ha : a.oneCell' = true) (hb : b.oneCell' = true) (g o c : Nat)
    (hc : ∀ j, j < 2 → (w.cell? ⟨g, o + j, none⟩).isSome = true) (hf : ∀ j, j < 2 → w.frozen? ⟨g, o + j, none⟩ = false) :
    (Builtin.clear_ #[t] ty #[.slice (some ⟨g, o, none⟩) 1 c]).run P w = .ok (.tuple #[]) (w.setCells g o [a, b]) := by
  have hzc : (Builtin.zeroCells z.cells 1).toList = [a, b] := by
    rw [hz]
    apply List.ext_getElem
    · simp [Builtin.zeroCells]
    · intro i h1 h2
      match i, h2 with
      | 0, _ => simp [Builtin.zeroCells]
      | 1, _ => simp [Builtin.zeroCells]
  have hst := run_storeCells_cells (P := P) g o [a, b] 0 w (by simpa using hc) (by simpa using hf) (by simp [ha, hb])
  simp only [Nat.add_zero] at hst
  simp [Builtin.clear_, run_underlying ht, hv, hzc, hst]
end Go.Proofs.YtnbdkojdddplkaaDoor.Dk
namespace Go.Proofs.YtnbdkojdddplkaaDoor.Dk
open Go.RowKit

theorem Tryd.info99 : (Tryd.prog.info? 99).map (fun i => (i.zero, i.size, i.bytes)) = some (some (.agg #[.string ⟨#[]⟩, .slice none 0 0]), 2, 40) := by kernel_rfl

set_option maxHeartbeats 1000000 in
theorem insert_end (v : Value) (n vb : Nat) (xs : List Value) (s d : Value) (w : World) (h : w.ownsRow 0 99 2 v n xs) (hn : n ≤ 1000000000) (hvb : w.heap[vb]? = some (.cells #[s, d] 99 (0, 0))) (hs : s.oneCell' = true) (hd : d.oneCell' = true) :
    Calls Tryd.prog 81 #[v, .int .i64 n, .slice (some ⟨vb, 0, none⟩) 1 1] w fun e w' => ∃ v', e = .returned v' ∧ w'.ownsRow 0 99 2 v' (n + 1) (xs ++ [s, d]) ∧ w.grownBy w' v.ownBlock ∧ (v'.ownBlock = v.ownBlock ∨ v'.ownBlock = some w.heap.size) := by
  obtain ⟨i, hi, hz0, hz1, hz2⟩ := info_parts Tryd.info99
  have hcell : ∀ j u, [s, d][j]? = some u → w.cell? ((⟨vb, 0, none⟩ : Addr).add j) = some u := by
    intro j u hj
    rw [Addr.add_lit, Nat.zero_add, cell_of_row w vb j _ 99 _ hvb]
    simpa using hj
  obtain ⟨v', w', hr, hO, hg, _, hat⟩ := run_append_own_at (P := Tryd.prog) w 0 58 58 99 i _ 2 40 Tryd.underlying58 hi hz0 hz1 hz2 rfl (by decide) v n xs h ⟨vb, 0, none⟩ 1 1 [s, d] rfl hcell (by simp [hs, hd]) (by simp only [maxLen]; omega) (by omega) (Nat.zero_le _)
  have HX : Hid (w'.ownsRow 0 99 2 v' (n + 1) (xs ++ [s, d]) ∧ w.grownBy w' v.ownBlock ∧ (v'.ownBlock = v.ownBlock ∨ v'.ownBlock = some w.heap.size)) := ⟨hO, hg, hat⟩
  clear hO hg hat hcell
  rcases own_shape h with ⟨rfl, rfl⟩ | ⟨g, cap, rfl, hc1, hc2, hc3⟩
  · have hr' : ∀ ty, (Builtin.append_ #[58, 57] ty #[.slice none 0 0, .slice (some ⟨vb, 0, none⟩) 1 1]).run Tryd.prog w = .ok v' w' := fun ty => by
      rw [append_types w 58 99 ty 57 58 99 99 i _ _ _ _ Tryd.underlying58 hi Tryd.underlying57 Tryd.underlying58]
      exact hr
    clear h hr hi hz0 hz1 hz2
    go_enter Tryd.func81, Tryd.ntmps81
    go_wp2_with (at_builtin; refine Lib.wpList_append_run _ rfl _ _ _ _ rfl _ _ rfl rfl _ _ (hr' _) ?_)
    go_ret
    exact ⟨_, rfl, HX.out⟩
  · have hr' : ∀ ty, (Builtin.append_ #[58, 57] ty #[.slice (some ⟨g, 0, none⟩) n cap, .slice (some ⟨vb, 0, none⟩) 1 1]).run Tryd.prog w = .ok v' w' := fun ty => by
      rw [append_types w 58 99 ty 57 58 99 99 i _ _ _ _ Tryd.underlying58 hi Tryd.underlying57 Tryd.underlying58]
      exact hr
    have hc2' : cap ≤ 9223372036854775807 := hc2
    clear h hr hi hz0 hz1 hz2 hc2
    go_enter Tryd.func81, Tryd.ntmps81
    go_wp2_with (at_builtin; refine Lib.wpList_append_run _ rfl _ _ _ _ rfl _ _ rfl rfl _ _ (hr' _) ?_)
    all_goals go_ret
    all_goals exact ⟨_, rfl, HX.out⟩
end Go.Proofs.YtnbdkojdddplkaaDoor.Dk
namespace Go.Proofs.YtnbdkojdddplkaaDoor.Dk
open Go.RowKit

/-- 'copy' whose run is known, for the walk. -/
theorem wpList_copy_run {P : Program} (w : World) {ops : Array Oper} {rest : List Oper} {o : Oper} {a : Act} {Q : Exit → Act → World → Prop} (hgd : o.guard = none) (d s : Operand) (t t' : TypeId)
    (ho : o.op = .call { callee := .builtin .copy, args := #[d, s], argTypes := #[t, t'] }) (v u : Value) (hd : a.eval d = v) (hs : a.eval s = u) {v' : Value} {w' : World}
    (hr : (Builtin.copy_ #[t, t'] o.type #[v, u]).run P w = .ok v' w') (h : wpList P ops Q rest (a.put o.dst v') w') : wpList P ops Q (o :: rest) a w := by
  refine wpList_plain hgd fun _ hK => ?_
  unfold Oper.wp execOp
  simp only [ho, resolve, invoke, builtin, Sem.run_bind, Sem.run_pure, Result.andThen_ok, List.map_toArray, List.map_cons, List.map_nil, hd, hs, hr]
  exact hK _ _ h
theorem step_copy_run {P : Program} {ops : Array Oper} {o : Oper} {a : Act} {w : World} {K : Act → World → Prop} {Q : Exit → Act → World → Prop} {E : Prop}
    (hg : o.guard = none) (d x : Operand) (dT sT : TypeId) (hop : o.op = Op.call { callee := Callee.builtin Builtin.copy, args := #[d, x], argTypes := #[dT, sT] })
    (v u : Value) (hd : a.eval d = v) (hx : a.eval x = u) {v' : Value} {w' : World} (hr : (Builtin.copy_ #[dT, sT] o.type #[v, u]).run P w = .ok v' w') (hK : K (a.put o.dst v') w') :
    if Region.wanted o (yielded ops a.tmps) = true then Oper.wp P o a w K Q else E := by
  have hw : Region.wanted o (yielded ops a.tmps) = true := by simp [Region.wanted, hg]
  rw [if_pos hw]
  unfold Oper.wp
  simp [execOp, hop, resolve, invoke, builtin, hd, hx, hr, Result.andThen]
  exact hK

theorem shape_of_heap {w : World} {b : Nat} {cs : Array Value} {T : TypeId} {fr : Nat × Nat} (h : w.heap[b]? = some (.cells cs T fr)) : w.shape? b = some (T, cs.size) := by simp [World.shape?, h]
theorem frozen_of_heap {w : World} {b : Nat} {cs : Array Value} {T : TypeId} (h : w.heap[b]? = some (.cells cs T (0, 0))) (j : Nat) : w.frozen? ⟨b, j, none⟩ = false := by simp [World.frozen?, h]
theorem some_of_heap {w : World} {b : Nat} {cs : Array Value} {T : TypeId} {fr : Nat × Nat} (h : w.heap[b]? = some (.cells cs T fr)) (j : Nat) (hj : j < cs.size) : (w.cell? ⟨b, j, none⟩).isSome = true := by
  rw [cell_of_row w b j _ T _ h, Array.getElem?_eq_getElem hj]; rfl

set_option maxHeartbeats 2000000 in
set_option maxRecDepth 20000 in
theorem insert_shift (g n cap i vb : Nat) (xs : List Value) (s d : Value) (w : World) (h : w.ownsRow 0 99 2 (.slice (some ⟨g, 0, none⟩) n cap) n xs) (hi : i < n) (hn : n ≤ 1000000000) (hroom : n + 1 ≤ cap) (hvb : w.heap[vb]? = some (.cells #[s, d] 99 (0, 0))) (hne : vb ≠ g) (hs : s.oneCell' = true) (hd : d.oneCell' = true) (h1 : ∀ u ∈ xs, u.oneCell' = true) :
    Calls Tryd.prog 81 #[.slice (some ⟨g, 0, none⟩) n cap, .int .i64 i, .slice (some ⟨vb, 0, none⟩) 1 1] w fun e w' => ∃ v', e = .returned v' ∧ w'.ownsRow 0 99 2 v' (n + 1) (xs.take (i * 2) ++ [s, d] ++ xs.drop (i * 2)) ∧ w.grownBy w' (some g) ∧ v'.ownBlock = some g := by
  obtain ⟨I, hI, hz0, hz1, hz2⟩ := info_parts Tryd.info99
  obtain ⟨cur, hg, hcm, hcs, htk⟩ : ∃ cur : Array Value, w.heap[g]? = some (.cells cur 99 (0, 0)) ∧ cap ≤ maxLen ∧ cur.size = cap * 2 ∧ cur.toList.take (n * 2) = xs := by
    rcases h.2 with ⟨hv, _⟩ | ⟨g', cap', cur, e, _, hg, _, hc, hs, ht⟩
    · simp at hv
    · simp only [Value.slice.injEq, Option.some.injEq, Addr.mk.injEq, and_true, true_and] at e
      obtain ⟨rfl, rfl⟩ := e
      exact ⟨cur, hg, hc, hs, ht⟩
  have hxl : xs.length = n * 2 := h.1
  have hcap : cap ≤ 9223372036854775807 := hcm
  have hgd : w.drew.heap[g]? = some (.cells cur 99 (0, 0)) := hg
  have hov : ∀ lb cb, (callFunc 88 #[.slice (some ⟨vb, 0, none⟩) 1 1, .slice (some ⟨g, (i + 1) * 2, none⟩) lb cb]).run Tryd.prog w = .ok (.value (.bool false)) w := fun lb cb => by
    rw [run_callFunc_extern Tryd.func88 (by kernel_rfl) (by kernel_rfl) (by kernel_rfl) (e := Extern.SlicesOverlaps.overlaps #[57, 57] #[4]) (by kernel_rfl),
      Lib.run_overlaps_apart w 57 4 99 Tryd.underlying57 2 (fun w => by simp [sizeOf, typeInfo, hI, hz1]) ⟨vb, 0, none⟩ ⟨g, (i + 1) * 2, none⟩ 1 1 lb cb hne 99 99 2 (cap * 2) (by rw [shape_of_heap hvb]; rfl) (by rw [shape_of_heap hg, hcs]) (by omega) (frozen_of_heap hvb 0) (frozen_of_heap hvb 2)]
    rfl
  have hdl : (xs.drop (i * 2)).length = (n - i) * 2 := by rw [List.length_drop, hxl]; omega
  have hcp1 : ∀ ty dc sc, (Builtin.copy_ #[58, 58] ty #[.slice (some ⟨g, (i + 1) * 2, none⟩) (n - i) dc, .slice (some ⟨g, i * 2, none⟩) (n + 1 - i) sc]).run Tryd.prog w.drew = .ok (goInt (Nat.min (n + 1 - i) (n - i))) (w.drew.setCells g ((i + 1) * 2) (xs.drop (i * 2))) := fun ty dc sc =>
    run_copy_two w.drew _ _ ty 99 I g ((i + 1) * 2) _ dc ⟨g, i * 2, none⟩ _ sc (xs.drop (i * 2)) Tryd.underlying58 hI hz1 (by rw [hdl]; congr 1; simp only [Nat.min_def]; split <;> omega)
      (fun j v hj => by
        rw [Addr.add_lit, cell_of_row _ _ _ _ _ _ hgd]
        rw [← htk, List.getElem?_drop, List.getElem?_take] at hj
        split at hj
        · simpa using hj
        · simp at hj)
      (fun j hj => some_of_heap hgd _ (by omega)) (fun j hj => frozen_of_heap hgd _) (fun v hv => h1 v (List.mem_of_mem_drop hv))
  obtain ⟨W1, HW1⟩ : ∃ W1, Hid (W1 = w.drew.setCells g ((i + 1) * 2) (xs.drop (i * 2))) := ⟨w.drew.setCells g ((i + 1) * 2) (xs.drop (i * 2)), (rfl : _ = _)⟩
  have hH1 : W1.heap[g]? = some (.cells (put cur.toList ((i + 1) * 2) (xs.drop (i * 2))).toArray 99 (0, 0)) := by
    rw [HW1.out]; exact heap_setCells _ _ _ _ hgd (by rw [hdl]; omega)
  have hcl : cur.toList.length = cap * 2 := by rw [Array.length_toList, hcs]
  have hpl := put_len cur.toList ((i + 1) * 2) (xs.drop (i * 2)) (by rw [hdl, hcl]; omega)
  have hvb1 : W1.heap[vb]? = some (.cells #[s, d] 99 (0, 0)) := by rw [HW1.out, setCells_other _ _ _ _ hne]; exact hvb
  have hcp2 : ∀ ty dc, (Builtin.copy_ #[58, 57] ty #[.slice (some ⟨g, i * 2, none⟩) (n + 1 - i) dc, .slice (some ⟨vb, 0, none⟩) 1 1]).run Tryd.prog W1 = .ok (goInt (Nat.min 1 (n + 1 - i))) (W1.setCells g (i * 2) [s, d]) := fun ty dc =>
    run_copy_two W1 _ _ ty 99 I g (i * 2) _ dc ⟨vb, 0, none⟩ _ 1 [s, d] Tryd.underlying58 hI hz1 (by rw [show Nat.min 1 (n + 1 - i) = 1 by simp only [Nat.min_def]; split <;> omega]; rfl)
      (fun j v hj => by
        rw [Addr.add_lit, Nat.zero_add, cell_of_row _ _ _ _ _ _ hvb1]
        simpa using hj)
      (fun j hj => some_of_heap hH1 _ (by simp at hj; rw [List.size_toArray, hpl, hcl]; omega)) (fun j hj => frozen_of_heap hH1 _) (by simp [hs, hd])
  have HE : Hid ((W1.setCells g (i * 2) [s, d]).ownsRow 0 99 2 (.slice (some ⟨g, 0, none⟩) (n + 1) cap) (n + 1) (xs.take (i * 2) ++ [s, d] ++ xs.drop (i * 2)) ∧ w.grownBy (W1.setCells g (i * 2) [s, d]) (some g)) := by
    refine ⟨own_of_heap (heap_setCells _ _ _ _ hH1 (by rw [List.size_toArray, hpl, hcl]; simp; omega)) hroom hcm ?_ ?_, ?_⟩
    · rw [List.size_toArray, put_len _ _ _ (by simp only [hpl, hcl]; simp; omega)]
      simp only [hpl, hcl]
    · apply List.ext_getElem?
      intro j
      have e1 : (xs.take (i * 2)).length = i * 2 := by simp; omega
      simp only
      rw [List.getElem?_take]
      split
      · rw [put_get _ _ _ (by rw [hpl, hcl]; simp; omega)]
        by_cases c1 : j < i * 2
        · rw [if_neg (by omega), put_get _ _ _ (by rw [hdl, hcl]; omega), if_neg (by omega), List.append_assoc, List.getElem?_append_left (by omega), List.getElem?_take, if_pos c1, ← htk, List.getElem?_take, if_pos (by omega)]
        · by_cases c2 : j < i * 2 + 2
          · rw [if_pos (by simp; omega), List.append_assoc, List.getElem?_append_right (by omega), e1, List.getElem?_append_left (by simp; omega)]
          · rw [if_neg (by simp; omega), put_get _ _ _ (by rw [hdl, hcl]; omega), if_pos (by rw [hdl]; omega), List.getElem?_append_right (by simp; omega)]
            simp only [List.length_append, e1, List.length_cons, List.length_nil]
            congr 1
            omega
      · rw [List.getElem?_eq_none (by simp; omega)]
    · have hgr := grown_drew_left (grown_setCells g (xs.drop (i * 2)) ((i + 1) * 2) w.drew)
      rw [← HW1.out] at hgr
      exact hgr.trans (grown_setCells g [s, d] (i * 2) W1)
  rw [← HW1.out] at hcp1
  have hz2' : ¬ ((i : Int) = (n : Int)) := by omega
  have hb2 : ¬ (cap = i + 1) := by omega
  have hb3 : (i : Int) ≤ (n : Int) + 1 := by omega
  have hb4 : ¬ (cap = i) := by omega
  have hb5 : ¬ (cap : Int) < (n : Int) + 1 := by omega
  have hb6 : (i : Int) < (n : Int) := by omega
  have hnr : (n : Int) + 1 ≤ (cap : Int) := by omega
  have hw1 : IntKind.i64.wrap ((i : Int) + 1) = (i : Int) + 1 := by rw [IntKind.wrap_i64]; omega
  have hb1 : (0 : Int) ≤ (i : Int) + 1 := by omega
  have htn : ((i : Int) + 1).toNat = i + 1 := by omega
  have hin : i ≤ n := by omega
  clear hcs htk hdl hgd hH1 hpl hvb1 hcl h hxl hcm h1 hg hvb hI hz0 hz1 hz2
  go_enter Tryd.func81, Tryd.ntmps81
  go_wp2_with (simp only [hov])
  go_region_law (refine step_copy_run rfl (.tmp 73) (.tmp 76) 58 58 rfl _ _ (by simp [Act.eval, Act.put]; rfl) (by simp [Act.eval, Act.put]; rfl) (hcp1 _ _ _) ?_)
  go_wp2_with (at_builtin; refine wpList_copy_run _ rfl _ _ 58 57 rfl _ _ rfl rfl (hcp2 _ _) ?_)
  go_ret
  exact ⟨_, rfl, HE.out.1, HE.out.2, rfl⟩
end Go.Proofs.YtnbdkojdddplkaaDoor.Dk

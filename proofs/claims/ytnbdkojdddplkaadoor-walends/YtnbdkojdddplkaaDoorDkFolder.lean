/- What a folder is behind a change of one file: laws on worlds alone. -/
import Derived.Test.YtnbdkojdddplkaaDoorDkMem
namespace Go.Proofs.YtnbdkojdddplkaaDoor.Dk
open Go.RowKit

theorem own_one {w : World} {b e s n : Nat} {v : Value} {xs : List Value} (h : w.ownsRow b e s v n xs) : v.oneCell' = true := by
  rcases own_shape h with ⟨rfl, _⟩ | ⟨g, cap, rfl, _⟩ <;> rfl
theorem own_slice {w : World} {b e s n : Nat} {v : Value} {xs : List Value} (h : w.ownsRow b e s v n xs) : ∃ ao L cap, v = .slice ao L cap := by
  rcases own_shape h with ⟨rfl, _⟩ | ⟨g, cap, rfl, _⟩ <;> exact ⟨_, _, _, rfl⟩
theorem Fol.ones {w : World} {v : Value} {zs : List Ent} {F : Nat → Prop} (h : Fol w v zs F) : ∀ u ∈ cellsF zs, u.oneCell' = true := by
  intro u hu
  obtain ⟨z, hz, hu⟩ := List.mem_flatMap.1 hu
  simp [Ent.cells] at hu
  rcases hu with rfl | rfl
  · rfl
  · exact own_one (h.data z hz)
theorem cellsF_take (a b : List Ent) : (cellsF (a ++ b)).take (a.length * 2) = cellsF a := by
  rw [cellsF_append, ← cellsF_len a, List.take_left]
theorem cellsF_drop (a b : List Ent) : (cellsF (a ++ b)).drop (a.length * 2) = cellsF b := by
  rw [cellsF_append, ← cellsF_len a, List.drop_left]
theorem cellsF_drop1 (a : List Ent) (z : Ent) (b : List Ent) : (cellsF (a ++ z :: b)).drop ((a.length + 1) * 2) = cellsF b := by
  rw [show a ++ z :: b = (a ++ [z]) ++ b by simp, show a.length + 1 = (a ++ [z]).length by simp, cellsF_drop]
theorem cellsF_set (a : List Ent) (z : Ent) (b : List Ent) (d : Value) (bs : List UInt8) : (cellsF (a ++ z :: b)).set (a.length * 2 + 1) d = cellsF (a ++ ⟨z.name, d, bs⟩ :: b) := by
  rw [cellsF_append, cellsF_append, cellsF_cons, cellsF_cons, List.set_append_right _ _ (by rw [cellsF_len]; omega), cellsF_len, Nat.add_sub_cancel_left]
  rfl

theorem ext_lt {F : Nat → Prop} {w w' : World} (hF : ∀ k, F k → k < w.heap.size) (hs : w.heap.size ≤ w'.heap.size) : ∀ k, ext F w w' k → k < w'.heap.size := by
  intro k hk
  rcases hk with hk | hk
  · have := hF k hk; omega
  · exact hk.2
theorem Fr.set_both {F : Nat → Prop} {w w' : World} (h : Fr F w w') (a : Addr) (u : Value) : Fr F (w.setCell a u) (w'.setCell a u) := by
  refine ⟨h.os, h.tape, h.output, by simpa [World.setCell] using h.size, fun k hk hF => ?_⟩
  have hb := h.block k (by simpa [World.setCell] using hk) hF
  simp only [World.setCell, Array.getElem?_modify, hb]

/-- Slices that lie aside. -/
structure SlA (w : World) (v : Value) (bs : List UInt8) (G : Nat → Prop) : Prop where
  sl : Sl w v bs
  away : ∀ a n c, v = .slice (some a) n c → ¬ G a.block
theorem SlA.kept {w w' : World} {v : Value} {bs : List UInt8} {G : Nat → Prop} (h : SlA w v bs G) (hf : Fr G w w') : SlA w' v bs G := by
  refine ⟨?_, h.away⟩
  obtain ⟨ao, cap, hv, h1, h2, h3, h4⟩ := h.sl
  refine ⟨ao, cap, hv, h1, h2, h3, fun hp => ?_⟩
  obtain ⟨g, off, ha, hc⟩ := h4 hp
  subst ha
  have ha : ¬ G g := h.away ⟨g, off, none⟩ _ _ hv
  exact ⟨g, off, rfl, fun j hj => hf.cell (hc j hj) ha⟩
theorem SlA.mono {w : World} {v : Value} {bs : List UInt8} {G H : Nat → Prop} (h : SlA w v bs G) (hg : ∀ k, H k → G k) : SlA w v bs H := ⟨h.sl, fun a n c hv hH => h.away a n c hv (hg _ hH)⟩
theorem SlA.of_own {w : World} {b : Nat} {v : Value} {bs : List UInt8} {G : Nat → Prop} (h : w.ownsRow b 5 1 v bs.length (cells8 bs)) (hg : ∀ k, v.ownBlock = some k → ¬ G k) : SlA w v bs G :=
  ⟨Sl.of_own h, fun a n c hv => hg _ (by rw [hv]; rfl)⟩

/-- The bytes of one file have changed: its new slice is stored. -/
theorem Fol.put {w w2 : World} {g N cap : Nat} {zl : List Ent} {z : Ent} {zr : List Ent} {F : Nat → Prop} (h : Fol w (.slice (some ⟨g, 0, none⟩) N cap) (zl ++ z :: zr) F) (d : Value) (bs : List UInt8)
    (hd : w2.ownsRow 0 5 1 d bs.length (cells8 bs)) (hg : w.grownBy w2 z.dv.ownBlock) (hb : d.ownBlock = z.dv.ownBlock ∨ (∃ k, d.ownBlock = some k ∧ w.heap.size ≤ k)) :
    Fol (w2.setCell ⟨g, zl.length * 2 + 1, none⟩ d) (.slice (some ⟨g, 0, none⟩) N cap) (zl ++ ⟨z.name, d, bs⟩ :: zr) (ext F w (w2.setCell ⟨g, zl.length * 2 + 1, none⟩ d)) ∧ Fr F w (w2.setCell ⟨g, zl.length * 2 + 1, none⟩ d) ∧ w2.cell? ⟨g, zl.length * 2 + 1, none⟩ = some z.dv ∧ w2.frozen? ⟨g, zl.length * 2 + 1, none⟩ = false := by
  have hz : z ∈ zl ++ z :: zr := by simp
  have hgz : z.dv.ownBlock ≠ some g := own_ne h.row (h.data z hz) (by decide) rfl
  have hN : N = (zl ++ z :: zr).length := by
    rcases h.shape with ⟨e, _⟩ | ⟨_, _, e, _⟩
    · simp at e
    · simp only [Value.slice.injEq] at e; exact e.2.1
  subst hN
  have hrow2 : w2.ownsRow 0 99 2 (.slice (some ⟨g, 0, none⟩) (zl ++ z :: zr).length cap) (zl ++ z :: zr).length (cellsF (zl ++ z :: zr)) := h.row.kept hg (Or.inr (fun e => hgz e.symm))
  have hst := hrow2.stored (zl.length * 2 + 1) d
  have hgd : ∀ k, d.ownBlock = some k → k ≠ g := fun k hk e => own_ne hrow2 hd (by decide) rfl (by rw [hk, e])
  have hfr : Fr F w (w2.setCell ⟨g, zl.length * 2 + 1, none⟩ d) :=
    Fr.setCell (Fr.of_grown hg (fun k hk => h.dataIn z hz k hk)) (fun _ => h.rowIn g rfl) d
  have hsz : w.heap.size ≤ (w2.setCell ⟨g, zl.length * 2 + 1, none⟩ d).heap.size := hfr.size
  have hlt : ∀ k, d.ownBlock = some k → k < (w2.setCell ⟨g, zl.length * 2 + 1, none⟩ d).heap.size := fun k hk => by
    have := (hd.lt k hk).2
    simpa [World.setCell] using this
  have hnew : ∀ k, d.ownBlock = some k → ext F w (w2.setCell ⟨g, zl.length * 2 + 1, none⟩ d) k := fun k hk => by
    rcases hb with hb | ⟨k', hk', hge⟩
    · exact Or.inl (h.dataIn z hz k (by rw [← hb]; exact hk))
    · rw [hk] at hk'
      cases hk'
      exact Or.inr ⟨hge, hlt k hk⟩
  have hapart := List.pairwise_append.1 h.apart
  have hap2 := List.pairwise_cons.1 hapart.2.1
  have hAz : ∀ x : Ent, x ∈ zl ∨ x ∈ zr → Apart x ⟨z.name, d, bs⟩ := fun x hx k hk hk' => by
    have hxz : Apart x z := by
      rcases hx with hx | hx
      · exact hapart.2.2 x hx z (by simp)
      · exact (hap2.1 x hx).symm
    rcases hb with hb | ⟨k2, hk2, hge⟩
    · exact hxz k hk (by rw [← hb]; exact hk')
    · simp only at hk'
      rw [hk'] at hk2
      cases hk2
      have hxm : x ∈ zl ++ z :: zr := by
        rcases hx with hx | hx <;> simp [hx]
      have := h.lt k (h.dataIn x hxm k hk)
      omega
  have hdata : ∀ x : Ent, x ∈ zl ∨ x ∈ zr → (w2.setCell ⟨g, zl.length * 2 + 1, none⟩ d).ownsRow 0 5 1 x.dv x.bs.length (cells8 x.bs) := fun x hx => by
    have hxm : x ∈ zl ++ z :: zr := by
      rcases hx with hx | hx <;> simp [hx]
    have hxz : Apart x z := by
      rcases hx with hx | hx
      · exact hapart.2.2 x hx z (by simp)
      · exact (hap2.1 x hx).symm
    have h2 := (h.data x hxm).kept hg (by
      cases hxo : x.dv.ownBlock with
      | none => exact Or.inl rfl
      | some k => exact Or.inr (fun e => hxz k hxo e.symm))
    refine h2.kept hst.2 (Or.inr fun e => ?_)
    exact own_ne h.row (h.data x hxm) (by decide) rfl e
  refine ⟨⟨?_, ?_, ?_, ?_, ?_, ext_lt h.lt hsz⟩, hfr, ?_, hrow2.frozenAt _⟩
  · have e := hst.1
    rw [cellsF_set zl z zr d bs] at e
    have hl : (zl ++ z :: zr).length = (zl ++ (⟨z.name, d, bs⟩ : Ent) :: zr).length := by simp
    rw [← hl]
    exact e
  · intro x hx
    rcases List.mem_append.1 hx with hx | hx
    · exact hdata x (Or.inl hx)
    · rcases List.mem_cons.1 hx with rfl | hx
      · exact hd.kept hst.2 (by
          cases hdo : d.ownBlock with
          | none => exact Or.inl rfl
          | some k => exact Or.inr (fun e => hgd k hdo (by simpa using e)))
      · exact hdata x (Or.inr hx)
  · refine List.pairwise_append.2 ⟨hapart.1, List.pairwise_cons.2 ⟨fun x hx => (hAz x (Or.inr hx)).symm, hap2.2⟩, fun x hx y hy => ?_⟩
    rcases List.mem_cons.1 hy with rfl | hy
    · exact hAz x (Or.inl hx)
    · exact hapart.2.2 x hx y (by simp [hy])
  · exact fun k hk => Or.inl (h.rowIn k hk)
  · intro x hx k hk
    rcases List.mem_append.1 hx with hx | hx
    · exact Or.inl (h.dataIn x (by simp [hx]) k hk)
    · rcases List.mem_cons.1 hx with rfl | hx
      · exact hnew k hk
      · exact Or.inl (h.dataIn x (by simp [hx]) k hk)
  · have := hrow2.cellAt (zl.length * 2 + 1) (by simp; omega)
    rw [this]
    exact (cellsF_at zl z zr).2

/-- A file has come in. -/
theorem Fol.inserted {w w' : World} {v v' : Value} {zl zr : List Ent} {F : Nat → Prop} (h : Fol w v (zl ++ zr) F) (n : ByteArray) (d : Value) (bs : List UInt8)
    (hrow : w'.ownsRow 0 99 2 v' ((zl ++ zr).length + 1) ((cellsF (zl ++ zr)).take (zl.length * 2) ++ [.string n, d] ++ (cellsF (zl ++ zr)).drop (zl.length * 2))) (hg : w.grownBy w' v.ownBlock) (hv : v'.ownBlock = v.ownBlock ∨ (∃ k, v'.ownBlock = some k ∧ w.heap.size ≤ k))
    (hd : w.ownsRow 0 5 1 d bs.length (cells8 bs)) (hdF : ∀ k, d.ownBlock = some k → F k) (hap : ∀ x ∈ zl ++ zr, Apart x ⟨n, d, bs⟩) : Fol w' v' (zl ++ ⟨n, d, bs⟩ :: zr) (ext F w w') := by
  have hkeep : ∀ (x : Ent), w.ownsRow 0 5 1 x.dv x.bs.length (cells8 x.bs) → w'.ownsRow 0 5 1 x.dv x.bs.length (cells8 x.bs) := fun x hx => by
    refine hx.kept hg ?_
    cases hxo : x.dv.ownBlock with
    | none => exact Or.inl rfl
    | some k => exact Or.inr (fun e => own_ne hx h.row (by decide) hxo e.symm)
  have hapart := List.pairwise_append.1 h.apart
  refine ⟨?_, ?_, ?_, ?_, ?_, ext_lt h.lt hg.size⟩
  · rw [cellsF_take, cellsF_drop] at hrow
    have e : cellsF (zl ++ ⟨n, d, bs⟩ :: zr) = cellsF zl ++ [.string n, d] ++ cellsF zr := by
      rw [cellsF_append, cellsF_cons, List.append_assoc]
      rfl
    rw [e]
    have hl : (zl ++ (⟨n, d, bs⟩ : Ent) :: zr).length = (zl ++ zr).length + 1 := by simp; omega
    rw [hl]
    exact hrow
  · intro x hx
    rcases List.mem_append.1 hx with hx | hx
    · exact hkeep x (h.data x (by simp [hx]))
    · rcases List.mem_cons.1 hx with rfl | hx
      · exact hkeep _ hd
      · exact hkeep x (h.data x (by simp [hx]))
  · refine List.pairwise_append.2 ⟨hapart.1, List.pairwise_cons.2 ⟨fun x hx => (hap x (by simp [hx])).symm, hapart.2.1⟩, fun x hx y hy => ?_⟩
    rcases List.mem_cons.1 hy with rfl | hy
    · exact hap x (by simp [hx])
    · exact hapart.2.2 x hx y hy
  · intro k hk
    rcases hv with hv | ⟨k', hk', hge⟩
    · exact Or.inl (h.rowIn k (by rw [← hv]; exact hk))
    · rw [hk] at hk'
      cases hk'
      exact Or.inr ⟨hge, (hrow.lt k hk).2⟩
  · intro x hx k hk
    rcases List.mem_append.1 hx with hx | hx
    · exact Or.inl (h.dataIn x (by simp [hx]) k hk)
    · rcases List.mem_cons.1 hx with rfl | hx
      · exact Or.inl (hdF k hk)
      · exact Or.inl (h.dataIn x (by simp [hx]) k hk)

/-- A file has gone. -/
theorem Fol.deleted {w w' : World} {v v' : Value} {zl : List Ent} {z : Ent} {zr : List Ent} {F : Nat → Prop} (h : Fol w v (zl ++ z :: zr) F)
    (hrow : w'.ownsRow 0 99 2 v' ((zl ++ z :: zr).length - 1) ((cellsF (zl ++ z :: zr)).take (zl.length * 2) ++ (cellsF (zl ++ z :: zr)).drop ((zl.length + 1) * 2))) (hg : w.grownBy w' v.ownBlock) (hv : v'.ownBlock = v.ownBlock) : Fol w' v' (zl ++ zr) F := by
  have hkeep : ∀ (x : Ent), w.ownsRow 0 5 1 x.dv x.bs.length (cells8 x.bs) → w'.ownsRow 0 5 1 x.dv x.bs.length (cells8 x.bs) := fun x hx => by
    refine hx.kept hg ?_
    cases hxo : x.dv.ownBlock with
    | none => exact Or.inl rfl
    | some k => exact Or.inr (fun e => own_ne hx h.row (by decide) hxo e.symm)
  have hm : ∀ x ∈ zl ++ zr, x ∈ zl ++ z :: zr := fun x hx => by
    rcases List.mem_append.1 hx with hx | hx <;> simp [hx]
  refine ⟨?_, fun x hx => hkeep x (h.data x (hm x hx)), h.apart.sublist (by simp), fun k hk => h.rowIn k (by rw [← hv]; exact hk), fun x hx => h.dataIn x (hm x hx), fun k hk => Nat.lt_of_lt_of_le (h.lt k hk) hg.size⟩
  rw [cellsF_take, cellsF_drop1, ← cellsF_append] at hrow
  have hl : (zl ++ z :: zr).length - 1 = (zl ++ zr).length := by simp
  rw [hl] at hrow
  exact hrow

theorem ext_from {F : Nat → Prop} {w w1 w' : World} (h : w.heap.size ≤ w1.heap.size) : ∀ k, ext F w1 w' k → ext F w w' k := fun k hk => by
  rcases hk with hk | hk
  · exact Or.inl hk
  · exact Or.inr ⟨by omega, hk.2⟩
theorem ext_ext {F : Nat → Prop} {w w1 w2 w3 : World} (h1 : w.heap.size ≤ w1.heap.size) (h2 : w1.heap.size ≤ w2.heap.size) (h3 : w2.heap.size ≤ w3.heap.size) : ∀ k, ext (ext F w1 w2) w2 w3 k → ext F w w3 k := fun k hk => by
  rcases hk with (hk | hk) | hk
  · exact Or.inl hk
  · exact Or.inr ⟨by omega, by omega⟩
  · exact Or.inr ⟨by omega, hk.2⟩
theorem Fr.frozen {F : Nat → Prop} {w w' : World} (h : Fr F w w') {p : Addr} {u : Value} (hc : w.cell? p = some u) (hp : ¬ F p.block) : w'.frozen? p = w.frozen? p :=
  World.frozen?_of_block (h.block p.block (World.block_lt_of_cell? w p hc) hp)
theorem setCell_size (w : World) (a : Addr) (u : Value) : (w.setCell a u).heap.size = w.heap.size := by simp [World.setCell]
theorem setCell_twice (w : World) (b o : Nat) (x y : Value) (k : Nat) : ((w.setCell ⟨b, o, none⟩ x).setCell ⟨b, o, none⟩ y).heap[k]? = (w.setCell ⟨b, o, none⟩ y).heap[k]? := by
  simp only [World.setCell, Array.getElem?_modify]
  split
  · cases w.heap[k]? with
    | none => rfl
    | some ob => cases ob <;> simp
  · rfl
/-- One change of a pointed-to slice behind another. -/
theorem Fr.then {F G : Nat → Prop} {w w1 w2 : World} {b o : Nat} {x y : Value} (h : Fr F (w.setCell ⟨b, o, none⟩ x) w1) (k : Fr G (w1.setCell ⟨b, o, none⟩ y) w2) (hg : ∀ i, i < w.heap.size → G i → F i) : Fr F (w.setCell ⟨b, o, none⟩ y) w2 := by
  have h2 := (h.set_both ⟨b, o, none⟩ y).trans k (fun i hi hG => hg i (by simpa [World.setCell] using hi) hG)
  refine ⟨h2.os, h2.tape, h2.output, by simpa [World.setCell] using h2.size, fun i hi hF => ?_⟩
  rw [h2.block i (by simpa [World.setCell] using hi) hF, setCell_twice]
/-- What the pointed-to slice is behind a change. -/
theorem Fr.at {G : Nat → Prop} {w w' : World} {b o : Nat} {v v' : Value} (h : Fr G (w.setCell ⟨b, o, none⟩ v') w') (hc : w.cell? ⟨b, o, none⟩ = some v) (hb : ¬ G b) : w'.cell? ⟨b, o, none⟩ = some v' ∧ w'.frozen? ⟨b, o, none⟩ = w.frozen? ⟨b, o, none⟩ := by
  have h1 := World.cell?_setCell_same (w := w) (a := ⟨b, o, none⟩) (v := v') hc
  exact ⟨h.cell h1 hb, (h.frozen h1 hb).trans (World.frozen?_setCell _ _ _ _)⟩

/-- A file is stored in its folder's row. -/
theorem Fol.set {w : World} {g N cap : Nat} {zl : List Ent} {z : Ent} {zr : List Ent} {F : Nat → Prop} (h : Fol w (.slice (some ⟨g, 0, none⟩) N cap) (zl ++ z :: zr) F) (n : ByteArray) (d : Value) (bs : List UInt8)
    (hd : w.ownsRow 0 5 1 d bs.length (cells8 bs)) (hdF : ∀ k, d.ownBlock = some k → F k) (hap : ∀ x : Ent, x ∈ zl ∨ x ∈ zr → Apart x ⟨n, d, bs⟩) :
    Fol ((w.setCell ⟨g, zl.length * 2, none⟩ (.string n)).setCell ⟨g, zl.length * 2 + 1, none⟩ d) (.slice (some ⟨g, 0, none⟩) N cap) (zl ++ ⟨n, d, bs⟩ :: zr) F := by
  have hN : N = (zl ++ z :: zr).length := by
    rcases h.shape with ⟨e, _⟩ | ⟨_, _, e, _⟩
    · simp at e
    · simp only [Value.slice.injEq] at e; exact e.2.1
  subst hN
  have h1 := h.row.stored (zl.length * 2) (.string n)
  have h2 := h1.1.stored (zl.length * 2 + 1) d
  have hg := h1.2.trans h2.2
  have hapart := List.pairwise_append.1 h.apart
  have hap2 := List.pairwise_cons.1 hapart.2.1
  have hkeep : ∀ (x : Ent), w.ownsRow 0 5 1 x.dv x.bs.length (cells8 x.bs) → ((w.setCell ⟨g, zl.length * 2, none⟩ (.string n)).setCell ⟨g, zl.length * 2 + 1, none⟩ d).ownsRow 0 5 1 x.dv x.bs.length (cells8 x.bs) := fun x hx => by
    refine hx.kept hg ?_
    cases hxo : x.dv.ownBlock with
    | none => exact Or.inl rfl
    | some k => exact Or.inr (fun e => own_ne hx h.row (by decide) hxo e.symm)
  refine ⟨?_, ?_, ?_, h.rowIn, ?_, fun k hk => Nat.lt_of_lt_of_le (h.lt k hk) hg.size⟩
  · have e := h2.1
    have e2 : ((cellsF (zl ++ z :: zr)).set (zl.length * 2) (.string n)).set (zl.length * 2 + 1) d = cellsF (zl ++ ⟨n, d, bs⟩ :: zr) := by
      rw [cellsF_append, cellsF_append, cellsF_cons, cellsF_cons, List.set_append_right _ _ (by rw [cellsF_len]; omega), cellsF_len, Nat.sub_self, List.set_append_right _ _ (by rw [cellsF_len]; omega), cellsF_len, Nat.add_sub_cancel_left]
      rfl
    rw [e2] at e
    have hl : (zl ++ z :: zr).length = (zl ++ (⟨n, d, bs⟩ : Ent) :: zr).length := by simp
    rw [← hl]
    exact e
  · intro x hx
    rcases List.mem_append.1 hx with hx | hx
    · exact hkeep x (h.data x (by simp [hx]))
    · rcases List.mem_cons.1 hx with rfl | hx
      · exact hkeep _ hd
      · exact hkeep x (h.data x (by simp [hx]))
  · refine List.pairwise_append.2 ⟨hapart.1, List.pairwise_cons.2 ⟨fun x hx => (hap x (Or.inr hx)).symm, hap2.2⟩, fun x hx y hy => ?_⟩
    rcases List.mem_cons.1 hy with rfl | hy
    · exact hap x (Or.inl hx)
    · exact hapart.2.2 x hx y (by simp [hy])
  · intro x hx k hk
    rcases List.mem_append.1 hx with hx | hx
    · exact h.dataIn x (by simp [hx]) k hk
    · rcases List.mem_cons.1 hx with rfl | hx
      · exact hdF k hk
      · exact h.dataIn x (by simp [hx]) k hk

theorem Fr.one (w : World) (b o : Nat) (u : Value) : Fr (fun k => k = b) w (w.setCell ⟨b, o, none⟩ u) := Fr.setCell (p := ⟨b, o, none⟩) (Fr.refl (fun k => k = b) w) (fun _ => rfl) u

/-- A folder behind a pointer has changed. -/
def Chg (w w' : World) (b o : Nat) (F : Nat → Prop) (fs : List Fl) : Prop := ∃ v' zs', Fol w' v' zs' (ext F w w') ∧ zs'.map Ent.fl = fs ∧ Fr F (w.setCell ⟨b, o, none⟩ v') w'
end Go.Proofs.YtnbdkojdddplkaaDoor.Dk

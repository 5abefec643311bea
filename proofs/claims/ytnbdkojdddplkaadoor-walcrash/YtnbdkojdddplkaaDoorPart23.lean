/- What slices of bytes, of such slices and of strings that came in read as. A slice of operations that is told, as it is read. What a crash leaves of a log's files: plain mathematics. The law of crashes: the models so far, in memory, beside the log. -/
import Derived.Test.YtnbdkojdddplkaaDoorPart02
import Derived.Deep.Matrix
import Derived.SliceStrings
import Derived.Test.YtnbdkojdddplkaaDoorPart22
import Derived.Deep.Slices
import Derived.Test.YtnbdkojdddplkaaDoorPart19
namespace Go.Proofs.YtnbdkojdddplkaaDoor.Wl
open Go.ChangeShapes Go.WideShapes Go.ChangeAt Go.RowKit Dk

theorem toNat_lo {u : Nat} (h : u < 256) : (UInt8.ofNat u).toNat = u := by rw [UInt8.toNat_ofNat']; exact Nat.mod_eq_of_lt h

/-- WHAT THE WALK IS TOLD OF A SLICE OF INTEGERS THAT CAME IN: it is nil; or it leads to a row of 'cap' cells, the numbers 'zs' (the first 'len' are its elements, the rest its spare room), each fitting its kind. -/
def IsRow (k : IntKind) (w : World) (a : Option Addr) (len cap : Nat) (zs : List Int) : Prop :=
  (a = none ∧ len = 0 ∧ cap = 0 ∧ zs = []) ∨
  ∃ x, a = some x ∧ len ≤ cap ∧ cap ≤ maxLen ∧ zs.length = cap ∧ (∀ i, i < zs.length → w.cell? (x.add i) = some (.int k (zs.getD i 0))) ∧ ∀ n ∈ zs, (Lit.int k n).wf = true

/-- The bytes of the row of bytes. -/
theorem told8 {w : World} {a : Option Addr} {len cap : Nat} {zs : List Int} (h : IsRow .u8 w a len cap zs) : ∃ bs, Sl w (.slice a len cap) bs := by
  rcases h with ⟨rfl, rfl, rfl, rfl⟩ | ⟨x, rfl, h1, h2, h3, h4, h5⟩
  · exact ⟨[], Sl.nil w⟩
  · have hl : ((zs.take len).map fun n => UInt8.ofNat n.toNat).length = len := by simp; omega
    refine ⟨(zs.take len).map fun n => UInt8.ofNat n.toNat, some x, cap, by rw [hl], by omega, h2, fun e => by simp at e, fun hp => ?_⟩
    rw [hl] at hp ⊢
    obtain ⟨b, off, rfl, hc⟩ := ints_at h4 (by omega)
    refine ⟨b, off, rfl, fun j hj => ?_⟩
    rw [hc j (by omega)]
    have hjz : j < zs.length := by omega
    have hb := bounds_u8 (h5 _ (List.getElem_mem hjz))
    have e1 : zs.getD j 0 = zs[j] := by simp [List.getD, List.getElem?_eq_getElem hjz]
    have e2 : ((zs.take len).map fun n => UInt8.ofNat n.toNat).getD j 0 = UInt8.ofNat (zs[j]).toNat := by
      simp [List.getD, hj, List.getElem?_eq_getElem hjz]
    unfold at8
    rw [e1, e2, toNat_lo (by omega)]
    congr 2
    omega

theorem rows_told {H : Type} {enc : TypeId × Value → H} {w : World} {ao : Option Addr} {len cap : Nat} {y : DataW H × List MemPlace}
    (h : ∃ fuel, DataW.trod enc Tryd.prog w 0 (fun _ => true) true fuel 30 [.slice ao len cap] = some y) :
    (0 < len → ∃ g off, ao = some ⟨g, off, none⟩ ∧ ∀ j, j < len → ∃ u bs, w.cell? ⟨g, off + j, none⟩ = some u ∧ Sl w u bs) ∧ len ≤ maxLen := by
  obtain ⟨fuel, hf⟩ := h
  rcases Deep.open_int_rows Tryd.underlying30 Tryd.underlying33 Tryd.underlying5 (by kernel_rfl) (by kernel_rfl) hf with ⟨hcs, _⟩ | ⟨a, len', cap', A, L, C, Z, hcs, _, hl, hm, _, hr⟩
  · simp at hcs
    obtain ⟨rfl, rfl, rfl⟩ := hcs
    exact ⟨fun h => by omega, by simp [maxLen]⟩
  · simp at hcs
    obtain ⟨rfl, rfl, rfl⟩ := hcs
    refine ⟨fun hp => ?_, by omega⟩
    have h00 := (hr 0 (by omega)).1
    obtain ⟨b, off, spot⟩ := a
    have hspot : spot = none := by
      have := World.cell?_spot h00
      simpa [Addr.add] using this
    subst hspot
    refine ⟨b, off, rfl, fun j hj => ?_⟩
    obtain ⟨hc, h1, h2, h3, h4, h5, h6⟩ := hr j (by omega)
    rw [Addr.add_lit] at hc
    have hrow : IsRow .u8 w (A j) (L j) (C j) (Z j) := by
      cases hA : A j with
      | none =>
        have hC := h5 hA
        refine Or.inl ⟨rfl, by omega, hC, List.eq_nil_of_length_eq_zero (by omega)⟩
      | some x => exact Or.inr ⟨x, rfl, h1, h2, h3, fun i hi => (h6 x hA).2 i (by omega), h4⟩
    obtain ⟨bs, hS⟩ := told8 hrow
    exact ⟨_, bs, hc, hS⟩

theorem strs_told {H : Type} {enc : TypeId × Value → H} {w : World} {ao : Option Addr} {len cap : Nat} {y : DataW H × List MemPlace}
    (h : ∃ fuel, DataW.trod enc Tryd.prog w 0 (fun _ => true) true fuel 46 [.slice ao len cap] = some y) :
    (∀ i, i < len → ∃ g off s, ao = some ⟨g, off, none⟩ ∧ w.cell? ⟨g, off + i, none⟩ = some (.string s) ∧ s.size ≤ maxLen) ∧ len ≤ maxLen := by
  obtain ⟨fuel, hf⟩ := h
  rcases open_strings Tryd.underlying46 Tryd.underlying9 (by kernel_rfl) hf with ⟨hcs, _⟩ | ⟨a, len', cap', ss, hcs, _, hl, hm, hss, _, hc, hz⟩
  · simp at hcs
    obtain ⟨rfl, rfl, rfl⟩ := hcs
    exact ⟨fun i h => by omega, by simp [maxLen]⟩
  · simp at hcs
    obtain ⟨rfl, rfl, rfl⟩ := hcs
    refine ⟨fun i hi => ?_, by omega⟩
    have hsl : ss.length = cap := by simpa using hss
    have h0 := hc i (by omega)
    have h00 := hc 0 (by omega)
    obtain ⟨b, off, spot⟩ := a
    have hspot : spot = none := by
      have := World.cell?_spot h00
      simpa [Addr.add] using this
    subst hspot
    rw [Addr.add_lit] at h0
    refine ⟨b, off, _, rfl, h0, ?_⟩
    have hi' : i < ss.length := by omega
    have e : ss.getD i ByteArray.empty = ss[i] := by simp [List.getD, List.getElem?_eq_getElem hi']
    rw [e]
    exact hz _ (List.getElem_mem hi')
end Go.Proofs.YtnbdkojdddplkaaDoor.Wl
namespace Go.Proofs.YtnbdkojdddplkaaDoor.Wl
open Go.ChangeShapes Go.WideShapes Go.ChangeAt Go.RowKit Dk

instance : Inhabited Op3 := ⟨⟨0, 0, undef, []⟩⟩
theorem cells_three {w : World} {base : Nat} {a : Addr} {cs : List Value} (h : w.cells? base a 3 = some cs) :
    ∃ c0 c1 c2, cs = [c0, c1, c2] ∧ w.cell? (a.add 0) = some c0 ∧ w.cell? (a.add 1) = some c1 ∧ w.cell? (a.add 2) = some c2 := by
  unfold World.cells? at h
  split at h
  · rw [show List.range 3 = [0, 1, 2] from rfl] at h
    simp only [List.mapM_cons, List.mapM_nil, Option.bind_eq_bind, Option.pure_def] at h
    cases h0 : w.cell? (a.add 0) <;> rw [h0] at h <;> simp at h
    cases h1 : w.cell? (a.add 1) <;> rw [h1] at h <;> simp at h
    cases h2 : w.cell? (a.add 2) <;> rw [h2] at h <;> simp at h
    exact ⟨_, _, _, h.symm, rfl, rfl, rfl⟩
  · cases h

theorem struct3 {H : Type} {enc : TypeId × Value → H} {P : Program} {w : World} {base : Nat} {spare : Nat → Bool} {held : Bool} {t : TypeId} {f0 f1 f2 : Field} {fuel : Nat} {cs : List Value} {x : DataW H × List MemPlace} (ht : P.underlying t = some (.struct #[f0, f1, f2])) (h : DataW.trod enc P w base spare held fuel t cs = some x) :
    ∃ y0 y1 y2 n, DataW.trod enc P w base spare held n f0.type ((cs.drop f0.offset).take (P.cellsOf f0.type)) = some y0 ∧
      DataW.trod enc P w base spare held n f1.type ((cs.drop f1.offset).take (P.cellsOf f1.type)) = some y1 ∧ DataW.trod enc P w base spare held n f2.type ((cs.drop f2.offset).take (P.cellsOf f2.type)) = some y2 := by
  obtain ⟨xs, n, _, rfl, hl, hlen, hf⟩ := DataW.trod_struct ht h
  match xs, hlen with
  | [y0, y1, y2], _ => exact ⟨y0, y1, y2, n, by simpa using hf 0 f0 rfl, by simpa using hf 1 f1 rfl, by simpa using hf 2 f2 rfl⟩

/-- A slice of bytes that is read, as its bytes. -/
theorem bytes_told {H : Type} {enc : TypeId × Value → H} {w : World} {fuel : Nat} {c : Value} {y : DataW H × List MemPlace} (h : DataW.trod enc Tryd.prog w 0 (fun _ => true) true fuel 33 [c] = some y) : ∃ bs, Sl w c bs := by
  rcases open_ints Tryd.underlying33 Tryd.underlying5 (by kernel_rfl) h with ⟨hcs, _⟩ | ⟨x, len, cap, zs, hcs, _, h1, h2, h3, _, h4, h5⟩
  · simp at hcs
    subst hcs
    exact ⟨[], Sl.nil w⟩
  · simp at hcs
    subst hcs
    exact told8 (.inr ⟨x, rfl, h1, h2, by simpa using h3, h4, h5⟩)

/-- One Op that is read. -/
theorem op_told {H : Type} {enc : TypeId × Value → H} {w : World} {fuel : Nat} {a : Addr} {cs : List Value} {y : DataW H × List MemPlace} (hc : w.cells? 0 a 3 = some cs) (h : DataW.trod enc Tryd.prog w 0 (fun _ => true) true fuel 35 cs = some y) :
    ∃ x : Op3, w.cell? (a.add 0) = some (.int .i64 x.kd) ∧ w.cell? (a.add 1) = some (.int .i64 x.n) ∧ w.cell? (a.add 2) = some x.v ∧ Sl w x.v x.b ∧ -9223372036854775808 ≤ x.n := by
  obtain ⟨c0, c1, c2, rfl, k0, k1, k2⟩ := cells_three hc
  obtain ⟨y0, y1, y2, n, h0, h1, h2⟩ := struct3 Tryd.underlying35 h
  rw [show Tryd.prog.cellsOf 3 = 1 from by kernel_rfl] at h0
  rw [show Tryd.prog.cellsOf 2 = 1 from by kernel_rfl] at h1
  rw [show Tryd.prog.cellsOf 33 = 1 from by kernel_rfl] at h2
  simp only [List.drop_zero, List.take_succ_cons, List.take_zero, List.drop_succ_cons] at h0 h1 h2
  obtain ⟨z0, e0, _, w0⟩ := DataW.trod_int Tryd.underlying3 h0
  obtain ⟨z1, e1, _, w1⟩ := DataW.trod_int Tryd.underlying2 h1
  obtain ⟨bs, hS⟩ := bytes_told h2
  simp at e0 e1
  subst e0 e1
  refine ⟨⟨z0, z1, c2, bs⟩, k0, k1, k2, hS, ?_⟩
  exact (bounds_i64 w1).1

theorem row_told {H : Type} {enc : TypeId × Value → H} {w : World} {fuel : Nat} {ao : Option Addr} {len cap : Nat} {y : DataW H × List MemPlace} (h : DataW.trod enc Tryd.prog w 0 (fun _ => true) true fuel 22 [.slice ao len cap] = some y) :
    ∃ f, OpRow w ao len f ∧ len ≤ maxLen := by
  rcases Deep.open_slice Tryd.underlying22 h with ⟨hcs, _⟩ | ⟨a, len', cap', m, n, D, Pl, hcs, _, hl, hm, hmm, _, hel⟩
  · simp at hcs
    obtain ⟨rfl, rfl, rfl⟩ := hcs
    exact ⟨fun _ => ⟨0, 0, undef, []⟩, fun h => by omega, by simp [maxLen]⟩
  · simp at hcs
    obtain ⟨rfl, rfl, rfl⟩ := hcs
    simp at hmm
    have hel' : ∀ i, i < len → ∃ x : Op3, w.cell? ((a.add (i * 3)).add 0) = some (.int .i64 x.kd) ∧ w.cell? ((a.add (i * 3)).add 1) = some (.int .i64 x.n) ∧ w.cell? ((a.add (i * 3)).add 2) = some x.v ∧ Sl w x.v x.b ∧ -9223372036854775808 ≤ x.n := by
      intro i hi
      obtain ⟨cs', hc, ht⟩ := hel i (by omega)
      rw [show Tryd.prog.cellsOf 35 = 3 from by kernel_rfl] at hc
      exact op_told hc ht
    obtain ⟨f, hf⟩ := Deep.choose_lt hel'
    refine ⟨f, fun hp => ?_, by omega⟩
    have h00 := (hf 0 hp).1
    obtain ⟨b, off, spot⟩ := a
    have hspot : spot = none := by
      have := World.cell?_spot h00
      simpa [Addr.add] using this
    subst hspot
    refine ⟨b, off, rfl, fun j hj => ?_⟩
    obtain ⟨g0, g1, g2, g3⟩ := hf j hj
    rw [Addr.add_lit, Addr.add_lit] at g0 g1 g2
    exact ⟨by simpa using g0, g1, g2, g3⟩
end Go.Proofs.YtnbdkojdddplkaaDoor.Wl
namespace Go.Proofs.YtnbdkojdddplkaaDoor.Wl
open Go.RowKit Dk

theorem scan_more : ∀ (ds : List (List UInt8)) (n : Int) (r : List UInt8), (∀ d ∈ ds, d.length ≤ 32768) → (Fr.scanL (fileB n ds ++ r)).1 = bodies n ds ++ (Fr.scanL r).1
  | [], n, r, _ => by rw [fileB, List.nil_append]; rfl
  | d :: ds, n, r, h => by
    have hd := h d List.mem_cons_self
    have e1 := enc_le n
    have e2 := enc_le (d.length : Int)
    have h1 := Fr.first_seal (Bn.enc n ++ (Bn.enc (d.length : Int) ++ d)) (fileB (n + 1) ds ++ r) (by simp only [List.length_append]; omega)
    have hf : fileB n (d :: ds) ++ r = Fr.sealL (Bn.enc n ++ (Bn.enc (d.length : Int) ++ d)) ++ (fileB (n + 1) ds ++ r) := by
      rw [← List.append_assoc]
      rfl
    rw [hf, Fr.scan_some h1, ← Fr.seal_len, List.drop_left, bodies, scan_more ds (n + 1) r (fun x hx => h x (List.mem_cons_of_mem _ hx))]
    rfl
/-- A record that is cut short is not read, and what stands ahead of it is. -/
theorem load_torn (ds : List (List UInt8)) (n : Int) (x : Int) (b : List UInt8) (t : Nat) (h : ∀ d ∈ ds, d.length ≤ 32768) (h1 : ds ≠ [] → 1 ≤ n) (h0 : ds = [] → n = 0) (hb : n + ds.length ≤ 9223372036854775808) (hl : b.length ≤ 32768) (ht : t < (recB x b).length) :
    loadR (Fr.scanL (fileB n ds ++ (recB x b).take t)).1 0 [] = (n, ds) := by
  have e1 := enc_le x
  have e2 := enc_le (b.length : Int)
  have hn : Fr.firstB ((recB x b).take t) = none := Fr.cut_none _ t (by simp only [List.length_append]; omega) ht
  rw [scan_more ds n _ h, Fr.scan_none hn, List.append_nil, ← scan_file ds n h]
  by_cases hd : ds = []
  · rw [hd, h0 hd, fileB_nil, Fr.scan_nil]
    rfl
  · rw [load_file ds n h (h1 hd) hb, if_neg (fun e => hd (List.eq_nil_of_length_eq_zero e))]

/-- What may be read off a file: these records, and what stands behind them is not read. -/
structure Ld (X : List UInt8) (first : Int) (ds : List (List UInt8)) : Prop where
  load : loadR (Fr.scanL X).1 0 [] = (first, ds)
  front : X.take (fileB first ds).length = fileB first ds
  self : loadR (Fr.scanL (fileB first ds)).1 0 [] = (first, ds)
  len : X.length ≤ 14000
/-- Files that a crash may leave where the log is this. -/
def CrF (fs : List Fl) (first : Int) (ds : List (List UInt8)) : Prop :=
  (fs = [] ∧ ds = [] ∧ first = 0) ∨ ∃ X, Ld X first ds ∧ (fs = [⟨nmW, X⟩] ∨ ∃ C, C.length ≤ 14000 ∧ fs = [⟨nmW, X⟩, ⟨nmC, C⟩])

/-- A log's numbers and records, as they may be. -/
structure Mo (first : Int) (ds : List (List UInt8)) : Prop where
  small : ∀ d ∈ ds, d.length ≤ 300
  one : ds ≠ [] → 1 ≤ first
  zero : ds = [] → first = 0
  len : ds.length ≤ 40
  fit : 0 ≤ first ∧ first + ds.length ≤ 4611686018427387904
theorem Mo.file {first : Int} {ds : List (List UInt8)} (h : Mo first ds) : (fileB first ds).length ≤ 13120 := by
  have := fileB_small ds first 300 h.small (by omega) h.fit.1 (by have := h.fit; omega)
  have := h.len
  omega
theorem Mo.ld {first : Int} {ds : List (List UInt8)} (h : Mo first ds) : Ld (fileB first ds) first ds := by
  have hf := h.file
  have hfit := h.fit
  have hl : loadR (Fr.scanL (fileB first ds)).1 0 [] = (first, ds) := by
    by_cases hd : ds = []
    · rw [hd, h.zero hd, fileB_nil, Fr.scan_nil]
      rfl
    · rw [load_file ds first (fun d hd => by have := h.small d hd; omega) (h.one hd) (by omega), if_neg (fun e => hd (List.eq_nil_of_length_eq_zero e))]
  exact ⟨hl, List.take_length, hl, by omega⟩
theorem Mo.cr {first : Int} {ds : List (List UInt8)} (h : Mo first ds) {fs : List Fl} (hn : nowF fs first ds) : CrF fs first ds := by
  rcases hn with ⟨rfl, hd⟩ | rfl
  · exact Or.inl ⟨rfl, hd, h.zero hd⟩
  · exact Or.inr ⟨_, h.ld, Or.inl rfl⟩
/-- A record behind it, torn. -/
theorem Mo.torn {first : Int} {ds : List (List UInt8)} (h : Mo first ds) {fs : List Fl} (hn : nowF fs first ds) (n : Int) (b : List UInt8) (hb : b.length ≤ 300) (hrn : 1 ≤ n ∧ n ≤ 9223372036854775807) (t : Nat) (ht : t < (recB n b).length) : CrF (Dk.ap fs (.app nmW ((recB n b).take t))) first ds := by
  have hf := h.file
  have hfit := h.fit
  have hrs := recB_size n b ⟨by omega, hrn.2⟩ (by omega)
  have hld : Ld (fileB first ds ++ (recB n b).take t) first ds := ⟨load_torn ds first n b t (fun d hd => by have := h.small d hd; omega) h.one h.zero (by omega) (by omega) ht, List.take_left, h.ld.self, by rw [List.length_append, List.length_take]; omega⟩
  rcases hn with ⟨rfl, hd⟩ | rfl
  · refine Or.inr ⟨_, hld, Or.inl ?_⟩
    rw [hd, fileB_nil]
    rfl
  · refine Or.inr ⟨_, hld, Or.inl ?_⟩
    simp [Dk.ap, Dk.look, Dk.del, Dk.ins]

theorem left_none (room : Int) (fs : List Fl) (n t : Int) : Dk.leftOf ⟨room, fs, []⟩ n t = fs := by
  unfold Dk.leftOf
  split <;> simp [Dk.run]
/-- What a crash leaves behind one change more. -/
theorem left_push (s : St) (c : Ch) (n t : Int) : Dk.leftOf (s.push c) n t = Dk.leftOf s n t ∨ Dk.leftOf (s.push c) n t = Dk.torn s.now c t ∨ Dk.leftOf (s.push c) n t = Dk.ap s.now c := by
  unfold Dk.leftOf St.push
  by_cases h0 : 0 ≤ n
  · rw [if_pos h0, if_pos h0]
    by_cases h1 : n.toNat < s.wait.length
    · left
      simp only
      rw [List.getElem?_append_left h1, List.take_append_of_le_length (by omega)]
    · right
      by_cases h2 : n.toNat = s.wait.length
      · left
        simp only
        rw [h2, List.getElem?_append_right (Nat.le_refl _), Nat.sub_self, List.take_left]
        rfl
      · right
        simp only
        rw [List.getElem?_eq_none (by simp; omega), List.take_of_length_le (by simp; omega)]
        simp only [St.now, Dk.run, List.foldl_append, List.foldl_cons, List.foldl_nil]
  · left
    rw [if_neg h0, if_neg h0]

/-- Whatever a crash leaves, it is one of these. -/
def Hs (s : St) (ms : List (Int × List (List UInt8))) : Prop := ∀ n t, ∃ m ∈ ms, CrF (Dk.leftOf s n t) m.1 m.2
theorem Hs.push {s : St} {ms : List (Int × List (List UInt8))} (h : Hs s ms) (c : Ch) (h1 : ∀ t, ∃ m ∈ ms, CrF (Dk.torn s.now c t) m.1 m.2) (h2 : ∃ m ∈ ms, CrF (Dk.ap s.now c) m.1 m.2) : Hs (s.push c) ms := by
  intro n t
  rcases left_push s c n t with e | e | e <;> rw [e]
  · exact h n t
  · exact h1 t
  · exact h2
theorem Hs.more {s : St} {ms : List (Int × List (List UInt8))} (h : Hs s ms) (ms' : List (Int × List (List UInt8))) : Hs s (ms ++ ms') := fun n t => by
  obtain ⟨m, hm, hc⟩ := h n t
  exact ⟨m, List.mem_append_left _ hm, hc⟩
theorem Hs.app {s : St} {ms : List (Int × List (List UInt8))} {first : Int} {ds : List (List UInt8)} (h : Hs s ms) (hM : Mo first ds) (hn : nowF s.now first ds) (hin : (first, ds) ∈ ms) (n : Int) (b : List UInt8) (hm : mayL first ds n = true) (hb : b.length ≤ 300) (hrn : n ≤ 9223372036854775807) (hM' : Mo (if ds.length = 0 then n else first) (ds ++ [b])) :
    Hs (s.push (.app nmW (recB n b))) (ms ++ [(if ds.length = 0 then n else first, ds ++ [b])]) := by
  have h1 : 1 ≤ n := by simp [mayL] at hm; exact hm.1
  have hnew : CrF (Dk.ap s.now (.app nmW (recB n b))) (if ds.length = 0 then n else first) (ds ++ [b]) := hM'.cr (hn.app n b hm)
  refine (h.more _).push _ (fun t => ?_) ⟨_, List.mem_append_right _ List.mem_cons_self, hnew⟩
  have et : Dk.torn s.now (.app nmW (recB n b)) t = if t < 0 then s.now else Dk.ap s.now (.app nmW ((recB n b).take t.toNat)) := rfl
  rw [et]
  by_cases ht0 : t < 0
  · rw [if_pos ht0]
    exact ⟨_, List.mem_append_left _ hin, hM.cr hn⟩
  · rw [if_neg ht0]
    by_cases ht : t.toNat < (recB n b).length
    · exact ⟨_, List.mem_append_left _ hin, hM.torn hn n b hb ⟨h1, hrn⟩ t.toNat ht⟩
    · rw [List.take_of_length_le (by omega)]
      exact ⟨_, List.mem_append_right _ List.mem_cons_self, hnew⟩
theorem Hs.cut {s : St} {ms : List (Int × List (List UInt8))} {first first' : Int} {ds ds' : List (List UInt8)} (h : Hs s ms) (hM : Mo first ds) (hn : nowF s.now first ds) (hin : (first, ds) ∈ ms) (k : Nat) (hM' : Mo first' ds') (hn' : nowF (Dk.ap s.now (.cut nmW k)) first' ds') :
    Hs (s.push (.cut nmW k)) (ms ++ [(first', ds')]) := by
  refine (h.more _).push _ (fun t => ⟨_, List.mem_append_left _ hin, ?_⟩) ⟨_, List.mem_append_right _ List.mem_cons_self, hM'.cr hn'⟩
  exact hM.cr hn
/-- The copy that Until makes, and its move. -/
theorem Hs.copy {s : St} {ms : List (Int × List (List UInt8))} {first first' : Int} {ds ds' : List (List UInt8)} (h : Hs s ms) (hM : Mo first ds) (hn : s.now = [⟨nmW, fileB first ds⟩]) (hin : (first, ds) ∈ ms) (hM' : Mo first' ds') :
    Hs ((s.push (.app nmC (fileB first' ds'))).push (.mov nmC nmW)) (ms ++ [(first', ds')]) := by
  have hf := hM'.file
  have hc : ∀ Y : List UInt8, Y.length ≤ 14000 → CrF (Dk.ap s.now (.app nmC Y)) first ds := fun Y hY => by
    rw [hn, ap_copy]
    exact Or.inr ⟨_, hM.ld, Or.inr ⟨Y, hY, rfl⟩⟩
  have h1 : Hs (s.push (.app nmC (fileB first' ds'))) ms := h.push _ (fun t => ⟨_, hin, by
    unfold Dk.torn
    simp only
    split
    · exact hM.cr (Or.inr hn)
    · exact hc _ (by rw [List.length_take]; omega)⟩) ⟨_, hin, hc _ (by omega)⟩
  have hnow : (s.push (.app nmC (fileB first' ds'))).now = [⟨nmW, fileB first ds⟩, ⟨nmC, fileB first' ds'⟩] := by
    have : (s.push (.app nmC (fileB first' ds'))).now = Dk.ap s.now (.app nmC (fileB first' ds')) := by
      simp only [St.now, St.push, Dk.run, List.foldl_append, List.foldl_cons, List.foldl_nil]
    rw [this, hn, ap_copy]
  refine (h1.more _).push _ (fun t => ⟨_, List.mem_append_left _ hin, ?_⟩) ⟨_, List.mem_append_right _ List.mem_cons_self, ?_⟩
  · show CrF (s.push (.app nmC (fileB first' ds'))).now _ _
    rw [hnow]
    exact Or.inr ⟨_, hM.ld, Or.inr ⟨_, by omega, rfl⟩⟩
  · rw [hnow, ap_move]
    exact Or.inr ⟨_, hM'.ld, Or.inl rfl⟩
theorem Hs.sync {s : St} {first : Int} {ds : List (List UInt8)} (hM : Mo first ds) (hn : nowF s.now first ds) : Hs ⟨s.room, s.now, []⟩ [(first, ds)] := fun n t => ⟨_, List.mem_cons_self, by rw [left_none]; exact hM.cr hn⟩

/-- What an opened log does to such files, and what a crash leaves of that. -/
theorem open_cr {fs : List Fl} {first : Int} {ds : List (List UInt8)} (h : CrF fs first ds) (room : Int) (n t : Int) : CrF (Dk.leftOf (openS ⟨room, fs, []⟩) n t) first ds := by
  have run1 : ∀ (c : Ch) (cs : List Ch), c.isApp = false → (∀ c' ∈ cs, c'.isApp = false) → ∀ n t, ∃ k, Dk.leftOf ⟨room, fs, c :: cs⟩ n t = Dk.run fs ((c :: cs).take k) := by
    intro c cs hc hcs n t
    unfold Dk.leftOf
    by_cases h0 : 0 ≤ n
    · rw [if_pos h0]
      simp only
      split
      · rename_i x hx
        have hx' : x.isApp = false := by
          have := List.mem_of_getElem? hx
          rcases List.mem_cons.1 this with rfl | hm
          · exact hc
          · exact hcs x hm
        refine ⟨n.toNat, ?_⟩
        cases x <;> first | rfl | (simp [Ch.isApp] at hx')
      · exact ⟨n.toNat, rfl⟩
    · rw [if_neg h0]
      exact ⟨0, rfl⟩
  rcases h with ⟨rfl, rfl, rfl⟩ | ⟨X, hX, hfs⟩
  · have : openS ⟨room, [], []⟩ = ⟨room, [], []⟩ := by
      simp [openS, fileOf, strays, St.now, Dk.run, Dk.look]
    rw [this, left_none]
    exact Or.inl ⟨rfl, rfl, rfl⟩
  · have hL : (fileB first ds).length ≤ X.length := by
      have := congrArg List.length hX.front
      rw [List.length_take] at this
      omega
    have hcut : Ld (X.take (fileB first ds).length) first ds := by
      rw [hX.front]
      have := hX.len
      exact ⟨hX.self, List.take_length, hX.self, by omega⟩
    rcases hfs with rfl | ⟨C, hC, rfl⟩
    · have hfo : fileOf (⟨room, [⟨nmW, X⟩], []⟩ : St) nmW = X := by simp [fileOf, St.now, Dk.run, Dk.look]
      have hst : strays ⟨room, [⟨nmW, X⟩], []⟩ ((⟨room, [⟨nmW, X⟩], []⟩ : St).now.map Fl.name) = ⟨room, [⟨nmW, X⟩], []⟩ := by
        simp [St.now, Dk.run, strays, strayStep]
      unfold openS
      rw [hfo, hX.load, hst]
      split
      · obtain ⟨k, hk⟩ := run1 (.cut nmW (fileB first ds).length) [] rfl (fun c hc => by simp at hc) n t
        have : (⟨room, [⟨nmW, X⟩], []⟩ : St).push (.cut nmW (fileB first ds).length) = ⟨room, [⟨nmW, X⟩], [.cut nmW (fileB first ds).length]⟩ := rfl
        simp only
        rw [this, hk]
        rcases k with _ | k
        · exact Or.inr ⟨X, hX, Or.inl rfl⟩
        · refine Or.inr ⟨_, hcut, Or.inl ?_⟩
          simp [Dk.run, Dk.ap, Dk.look, Dk.del, Dk.ins]
      · rw [left_none]
        exact Or.inr ⟨X, hX, Or.inl rfl⟩
    · have hne := nmC_ne
      have hne' := nmW_ne
      have hfo : fileOf (⟨room, [⟨nmW, X⟩, ⟨nmC, C⟩], []⟩ : St) nmW = X := by simp [fileOf, St.now, Dk.run, Dk.look]
      have hpre : preW nmC = true := by kernel_rfl
      have hlk : (Dk.look nmC [⟨nmW, X⟩, ⟨nmC, C⟩]).isSome = true := by simp [Dk.look, hne']
      have hst : strays ⟨room, [⟨nmW, X⟩, ⟨nmC, C⟩], []⟩ ((⟨room, [⟨nmW, X⟩, ⟨nmC, C⟩], []⟩ : St).now.map Fl.name) = ⟨room, [⟨nmW, X⟩, ⟨nmC, C⟩], [.rem nmC]⟩ := by
        simp only [St.now, Dk.run, List.foldl_nil, List.map_cons, List.map_nil, strays, List.foldl_cons]
        have e1 : strayStep ⟨room, [⟨nmW, X⟩, ⟨nmC, C⟩], []⟩ nmW = ⟨room, [⟨nmW, X⟩, ⟨nmC, C⟩], []⟩ := by simp [strayStep]
        rw [e1, strayStep, if_pos ⟨hpre, hne⟩, rmStep, if_pos (show (Dk.look nmC (⟨room, [⟨nmW, X⟩, ⟨nmC, C⟩], []⟩ : St).now).isSome = true from hlk)]
        rfl
      have hrem : Dk.ap [⟨nmW, X⟩, ⟨nmC, C⟩] (.rem nmC) = [⟨nmW, X⟩] := by simp [Dk.ap, Dk.del, hne']
      unfold openS
      rw [hfo, hX.load, hst]
      split
      · obtain ⟨k, hk⟩ := run1 (.rem nmC) [.cut nmW (fileB first ds).length] rfl (fun c hc => by simp at hc; rw [hc]; rfl) n t
        have : (⟨room, [⟨nmW, X⟩, ⟨nmC, C⟩], [.rem nmC]⟩ : St).push (.cut nmW (fileB first ds).length) = ⟨room, [⟨nmW, X⟩, ⟨nmC, C⟩], [.rem nmC, .cut nmW (fileB first ds).length]⟩ := rfl
        simp only
        rw [this, hk]
        rcases k with _ | _ | k
        · exact Or.inr ⟨X, hX, Or.inr ⟨C, hC, rfl⟩⟩
        · refine Or.inr ⟨X, hX, Or.inl ?_⟩
          simp only [Nat.zero_add, List.take_succ_cons, List.take_zero, Dk.run, List.foldl_cons, List.foldl_nil]
          exact hrem
        · refine Or.inr ⟨_, hcut, Or.inl ?_⟩
          simp only [List.take_succ_cons, List.take_nil, Dk.run, List.foldl_cons, List.foldl_nil]
          rw [hrem]
          simp [Dk.ap, Dk.look, Dk.del, Dk.ins]
      · obtain ⟨k, hk⟩ := run1 (.rem nmC) [] rfl (fun c hc => by simp at hc) n t
        rw [hk]
        rcases k with _ | k
        · exact Or.inr ⟨X, hX, Or.inr ⟨C, hC, rfl⟩⟩
        · refine Or.inr ⟨X, hX, Or.inl ?_⟩
          simp only [List.take_succ_cons, List.take_nil, Dk.run, List.foldl_cons, List.foldl_nil]
          exact hrem

/-- What an opening asks of such files. -/
theorem CrF.asks {fs : List Fl} {first : Int} {ds : List (List UInt8)} (h : CrF fs first ds) (room : Int) : Nm fs ∧ (fileOf ⟨room, fs, []⟩ nmW).length ≤ 30000 ∧ fs.length ≤ 100 ∧ (⟨room, fs, []⟩ : St).mass ≤ 30000 ∧ loadR (Fr.scanL (fileOf ⟨room, fs, []⟩ nmW)).1 0 [] = (first, ds) := by
  have hnC : nmC.size ≤ maxLen := by decide
  rcases h with ⟨rfl, rfl, rfl⟩ | ⟨X, hX, hfs⟩
  · refine ⟨fun f hf => by simp at hf, by simp [fileOf, St.now, Dk.run, Dk.look], by simp, by simp [St.mass, Dk.mass, wmass], ?_⟩
    have : fileOf (⟨room, [], []⟩ : St) nmW = [] := rfl
    rw [this, Fr.scan_nil]
    rfl
  · have hl := hX.len
    rcases hfs with rfl | ⟨C, hC, rfl⟩
    · have hfo : fileOf (⟨room, [⟨nmW, X⟩], []⟩ : St) nmW = X := by simp [fileOf, St.now, Dk.run, Dk.look]
      refine ⟨fun f hf => by simp at hf; rw [hf]; exact nmW_size, by rw [hfo]; omega, by simp, by simp [St.mass, Dk.mass, wmass]; omega, by rw [hfo]; exact hX.load⟩
    · have hfo : fileOf (⟨room, [⟨nmW, X⟩, ⟨nmC, C⟩], []⟩ : St) nmW = X := by simp [fileOf, St.now, Dk.run, Dk.look]
      refine ⟨fun f hf => ?_, by rw [hfo]; omega, by simp, by simp [St.mass, Dk.mass, wmass]; omega, by rw [hfo]; exact hX.load⟩
      simp at hf
      rcases hf with rfl | rfl
      · exact nmW_size
      · exact hnC
end Go.Proofs.YtnbdkojdddplkaaDoor.Wl
namespace Go.Proofs.YtnbdkojdddplkaaDoor.Wl
open Go.RowKit Dk

/-- A model in memory. -/
structure Md where
  mf : Int
  ao : Option Addr
  cap : Nat
  ds : List (List UInt8)
def Md.norm (m : Md) : Int × List (List UInt8) := (if m.ds.length = 0 then 0 else m.mf, m.ds)
def cells2 (ms : List Md) : List Value := ms.flatMap fun m => [.int .i64 m.mf, .slice m.ao m.ds.length m.cap]
theorem cells2_len : ∀ L : List Md, (cells2 L).length = L.length * 2
  | [] => rfl
  | t :: r => by
    have := cells2_len r
    simp [cells2] at this ⊢
    omega
theorem cells2_append (a b : List Md) : cells2 (a ++ b) = cells2 a ++ cells2 b := by simp [cells2]
theorem cells2_cons (m : Md) (b : List Md) : cells2 (m :: b) = .int .i64 m.mf :: .slice m.ao m.ds.length m.cap :: cells2 b := by simp [cells2]
theorem cells2_get (L : List Md) (i : Nat) (h : i < L.length) : (cells2 L)[i * 2]? = some (.int .i64 L[i].mf) ∧ (cells2 L)[i * 2 + 1]? = some (.slice L[i].ao L[i].ds.length L[i].cap) := by
  have e : L = L.take i ++ L[i] :: L.drop (i + 1) := by simp
  have hl : (cells2 (L.take i)).length = i * 2 := by rw [cells2_len]; simp; omega
  have e2 : cells2 L = cells2 (L.take i) ++ (.int .i64 L[i].mf :: .slice L[i].ao L[i].ds.length L[i].cap :: cells2 (L.drop (i + 1))) := by
    conv => lhs; rw [e]
    rw [cells2_append, cells2_cons]
  rw [e2]
  refine ⟨?_, ?_⟩
  · rw [List.getElem?_append_right (by omega), hl]; simp
  · rw [List.getElem?_append_right (by omega), hl, Nat.add_sub_cancel_left]; rfl
theorem cells2_one (L : List Md) : ∀ u ∈ cells2 L, u.oneCell' = true := by
  intro u hu
  obtain ⟨t, _, hu⟩ := List.mem_flatMap.1 hu
  simp at hu
  rcases hu with rfl | rfl <;> rfl

/-- A model that may be. -/
structure Mok (m : Md) (k : Nat) : Prop where
  mf0 : 0 ≤ m.mf
  mf1 : m.mf + m.ds.length ≤ 1125899906842624 + k
  one : m.ds ≠ [] → 1 ≤ m.mf
  len : m.ds.length ≤ k
  small : ∀ d ∈ m.ds, d.length ≤ 300
theorem Mok.more {m : Md} {k : Nat} (h : Mok m k) : Mok m (k + 1) := ⟨h.mf0, by have := h.mf1; omega, h.one, by have := h.len; omega, h.small⟩

/-- The log, and the row of models so far: the last one is what the log is; whatever a crash leaves is one from sy on. -/
structure Cw (w wr : World) (p pd : Nat) (s : St) (H : Nat → Prop) (first : Int) (ds : List (List UInt8)) (v : Value) (ms : List Md) (sy k M : Nat) : Prop where
  lx : LX wr p pd s H first ds
  gs : Gs s first ds k M
  mM : M ≤ 14000 * k + 1
  hi : ∀ j, H j → w.heap.size ≤ j
  row : wr.ownsRow w.heap.size 32 2 v ms.length (cells2 ms)
  off : ∀ j, v.ownBlock = some j → ¬ H j
  ml : ∀ m ∈ ms, Ml wr m.ao m.cap m.ds (fun j => H j ∨ v.ownBlock = some j)
  okm : ∀ m ∈ ms, Mok m k
  last : ∃ ms0 m, ms = ms0 ++ [m] ∧ m.ds = ds ∧ (ds ≠ [] → m.mf = first)
  hs : Hs s ((ms.drop sy).map Md.norm)
  sy : sy < ms.length
  nz : ms.length ≤ k + 1
  below : Below w.heap.size w wr
/-- The log is one model ahead. -/
structure Cz (w wr : World) (p pd : Nat) (s : St) (H : Nat → Prop) (first : Int) (ds : List (List UInt8)) (v : Value) (ms : List Md) (sy k M : Nat) (m : Md) : Prop where
  lx : LX wr p pd s H first ds
  gs : Gs s first ds k M
  mM : M ≤ 14000 * k + 1
  hi : ∀ j, H j → w.heap.size ≤ j
  row : wr.ownsRow w.heap.size 32 2 v ms.length (cells2 ms)
  off : ∀ j, v.ownBlock = some j → ¬ H j
  ml : ∀ m ∈ ms, Ml wr m.ao m.cap m.ds (fun j => H j ∨ v.ownBlock = some j)
  mn : Ml wr m.ao m.cap m.ds (fun j => H j ∨ v.ownBlock = some j)
  okm : ∀ m ∈ ms, Mok m k
  okn : Mok m k
  eq : m.ds = ds ∧ (ds ≠ [] → m.mf = first)
  hs : Hs s ((ms.drop sy).map Md.norm ++ [m.norm])
  sy : sy < ms.length
  nz : ms.length + 1 ≤ k + 1
  below : Below w.heap.size w wr

section
variable {w wr u : World} {p pd : Nat} {s : St} {H : Nat → Prop} {first : Int} {ds : List (List UInt8)} {v : Value} {ms : List Md} {sy k M : Nat} {m : Md}
theorem own_keptB {w w' : World} {base e size n : Nat} {v : Value} {xs : List Value} (h : w.ownsRow base e size v n xs) {F : Nat → Prop} (hf : Dk.Fr F w w') (hn : ∀ k, v.ownBlock = some k → ¬ F k) : w'.ownsRow base e size v n xs := by
  refine ⟨h.1, ?_⟩
  rcases h.2 with hn' | ⟨g, cap, cur, rfl, hb, hgg, rest⟩
  · exact .inl hn'
  · refine .inr ⟨g, cap, cur, rfl, hb, ?_, rest⟩
    rw [hf.block g (Array.getElem?_eq_some_iff.1 hgg).1 (hn g rfl)]
    exact hgg
theorem Cw.keep (h : Cw w wr p pd s H first ds v ms sy k M) (hb : Below wr.heap.size wr u) : Cw w u p pd s H first ds v ms sy k M :=
  ⟨h.lx.below hb, h.gs, h.mM, h.hi, own_keptB (F := fun _ => False) h.row (Fr.of_below hb) (fun _ _ hf => hf), h.off, fun m hm => (h.ml m hm).below hb, h.okm, h.last, h.hs, h.sy, h.nz, h.below.trans (hb.mono h.below.size)⟩
theorem Cz.keep (h : Cz w wr p pd s H first ds v ms sy k M m) (hb : Below wr.heap.size wr u) : Cz w u p pd s H first ds v ms sy k M m :=
  ⟨h.lx.below hb, h.gs, h.mM, h.hi, own_keptB (F := fun _ => False) h.row (Fr.of_below hb) (fun _ _ hf => hf), h.off, fun m hm => (h.ml m hm).below hb, h.mn.below hb, h.okm, h.okn, h.eq, h.hs, h.sy, h.nz, h.below.trans (hb.mono h.below.size)⟩
/-- One round more, and nothing has changed. -/
theorem Cw.more (h : Cw w wr p pd s H first ds v ms sy k M) : Cw w wr p pd s H first ds v ms sy (k + 1) M :=
  ⟨h.lx, ⟨h.gs.room, h.gs.now, h.gs.mass, h.gs.small, by have := h.gs.len; omega, h.gs.fit⟩, by have := h.mM; omega, h.hi, h.row, h.off, h.ml, fun m hm => (h.okm m hm).more, h.last, h.hs, h.sy, by have := h.nz; omega, h.below⟩
theorem Cw.shape (h : Cw w wr p pd s H first ds v ms sy k M) : ∃ g cap, v = .slice (some ⟨g, 0, none⟩) ms.length cap ∧ ms.length ≤ cap ∧ w.heap.size ≤ g ∧ g < wr.heap.size := by
  have hp : 0 < ms.length := by have := h.sy; omega
  rcases h.row.2 with ⟨_, h0⟩ | ⟨g, cap, cur, rfl, hb, hg, h1, h2, _⟩
  · omega
  · exact ⟨g, cap, rfl, h1, hb, (Array.getElem?_eq_some_iff.1 hg).1⟩
theorem Cw.cell {g cap : Nat} (h : Cw w wr p pd s H first ds (.slice (some ⟨g, 0, none⟩) ms.length cap) ms sy k M) (i : Nat) (hi : i < ms.length) : wr.cell? ⟨g, i * 2, none⟩ = some (.int .i64 ms[i].mf) ∧ wr.cell? ⟨g, i * 2 + 1, none⟩ = some (.slice ms[i].ao ms[i].ds.length ms[i].cap) := by
  have hc := cells2_get ms i hi
  exact ⟨(h.row.cellAt _ (by omega)).trans hc.1, (h.row.cellAt _ (by omega)).trans hc.2⟩
/-- What the log is may be. -/
theorem Cw.mo (h : Cw w wr p pd s H first ds v ms sy k M) (hk : k ≤ 30) : Mo first ds := by
  obtain ⟨ms0, m, he, hd, hf⟩ := h.last
  have hm := h.okm m (by rw [he]; simp)
  exact ⟨h.gs.small, fun hne => by rw [← hf hne]; exact hm.one (by rw [hd]; exact hne), h.lx.zero, by have := h.gs.len; omega, h.gs.fit⟩
theorem Cw.norm (h : Cw w wr p pd s H first ds v ms sy k M) : (first, ds) ∈ (ms.drop sy).map Md.norm := by
  obtain ⟨ms0, m, he, hd, hf⟩ := h.last
  have hsy := h.sy
  rw [he] at hsy ⊢
  rw [List.length_append] at hsy
  simp at hsy
  rw [List.drop_append_of_le_length (by omega)]
  refine List.mem_map.2 ⟨m, List.mem_append_right _ List.mem_cons_self, ?_⟩
  unfold Md.norm
  rw [hd]
  by_cases hz : ds.length = 0
  · rw [if_pos hz, h.lx.zero (List.eq_nil_of_length_eq_zero hz)]
  · rw [if_neg hz, hf (fun e => hz (by rw [e]; rfl))]

theorem Tryd.inf32 : (Tryd.prog.info? 32).map (fun i => (i.zero, i.size, i.bytes)) = some (some (.agg #[.int .i64 0, .slice none 0 0]), 2, 32) := by kernel_rfl
/-- The new model is put behind the others. -/
theorem Cz.push (h : Cz w wr p pd s H first ds v ms sy k M m) (hk : k ≤ 30) :
    ∃ g cap u, (∀ ty, (Builtin.append_ #[44, 44] ty #[v, .slice (some ⟨wr.heap.size, 0, none⟩) 1 1]).run Tryd.prog (wr.alloc (.cells #[.int .i64 m.mf, .slice m.ao m.ds.length m.cap] 32)) = .ok (.slice (some ⟨g, 0, none⟩) (ms.length + 1) cap) u) ∧ Hid (Cw w u p pd s H first ds (.slice (some ⟨g, 0, none⟩) (ms.length + 1) cap) (ms ++ [m]) sy k M) := by
  obtain ⟨i, hi, hz, hsize, hby⟩ := info_parts Tryd.inf32
  have ha := h.keep (below_box1 wr (.cells #[.int .i64 m.mf, .slice m.ao m.ds.length m.cap] 32))
  have hsa : (wr.alloc (.cells #[.int .i64 m.mf, .slice m.ao m.ds.length m.cap] 32)).heap.size = wr.heap.size + 1 := by simp
  have hbs := h.below.size
  have hnz := h.nz
  have HA := fun ty => run_append_own_at (P := Tryd.prog) _ w.heap.size 44 ty 32 i _ 2 32 Tryd.underlying44 hi hz hsize hby rfl (by decide) v ms.length (cells2 ms) ha.row ⟨wr.heap.size, 0, none⟩ 1 1 (cells2 [m]) rfl (fun j x hj => by
    rw [Addr.add_lit, Nat.zero_add, cell_of_row _ _ j _ _ _ (heap_alloc_new _ _)]
    simpa [cells2] using hj) (cells2_one [m]) (by simp only [maxLen]; omega) (by omega) (by omega)
  obtain ⟨v', w', hr, g1, g2, _, g4⟩ := HA 0
  rw [← cells2_append] at g1
  have hlt := h.lx.lt
  rcases g1.2 with ⟨_, h0⟩ | ⟨g', cap, cur, rfl, hb, hg, h1, h2, _⟩
  · omega
  · have hfr : Dk.Fr (fun j => v.ownBlock = some j) (wr.alloc (.cells #[.int .i64 m.mf, .slice m.ao m.ds.length m.cap] 32)) w' := ⟨g2.os, g2.tape, g2.output, g2.size, fun j hj hn => g2.block j hj (fun e => hn e.symm)⟩
    have hown : ∀ j, v.ownBlock = some j → w.heap.size ≤ j := fun j hj => (h.row.lt j hj).1
    have hoff : ∀ j, (Value.slice (some ⟨g', 0, none⟩) (ms.length + 1) cap).ownBlock = some j → v.ownBlock = some j ∨ j = wr.heap.size + 1 := fun j hj => by
      rcases g4 with e | e
      · exact Or.inl (e.symm.trans hj)
      · right
        rw [e] at hj
        simp at hj
        omega
    have hmk : ∀ {x : Md}, Ml (wr.alloc (.cells #[.int .i64 m.mf, .slice m.ao m.ds.length m.cap] 32)) x.ao x.cap x.ds (fun j => H j ∨ v.ownBlock = some j) → Ml w' x.ao x.cap x.ds (fun j => H j ∨ (Value.slice (some ⟨g', 0, none⟩) (ms.length + 1) cap).ownBlock = some j) := fun {x} hx => by
      refine ((hx.more (K := fun j => H j ∨ v.ownBlock = some j ∨ j = wr.heap.size + 1) (fun j hj hK => ?_)).kept (hfr.mono (fun j _ e => Or.inr (Or.inl e)))).more (fun j _ hK => ?_)
      · rcases hK with hK | hK | hK
        · exact Or.inl hK
        · exact Or.inr hK
        · omega
      · rcases hK with hK | hK
        · exact Or.inl hK
        · exact Or.inr (hoff j hK)
    refine ⟨g', cap, w', fun ty => hr, ⟨ha.lx.kept hfr (fun j hj e => h.off j e hj), h.gs, h.mM, h.hi, by rw [List.length_append]; exact g1, fun j hj hH => ?_, fun x hx => ?_, fun x hx => ?_, ⟨ms, m, rfl, h.eq.1, h.eq.2⟩, ?_, by rw [List.length_append]; have := h.sy; simp; omega, by rw [List.length_append]; simp; omega, ?_⟩⟩
    · rcases hoff j hj with e | e
      · exact h.off j e hH
      · have := hlt j hH; omega
    · rcases List.mem_append.1 hx with hx | hx
      · exact hmk (ha.ml x hx)
      · simp at hx
        rw [hx]
        exact hmk ha.mn
    · rcases List.mem_append.1 hx with hx | hx
      · exact h.okm x hx
      · simp at hx
        rw [hx]
        exact h.okn
    · have hsy := h.sy
      rw [List.drop_append_of_le_length (by omega), List.map_append]
      exact h.hs
    · exact ha.below.trans (hfr.below hown (by omega))
end
end Go.Proofs.YtnbdkojdddplkaaDoor.Wl

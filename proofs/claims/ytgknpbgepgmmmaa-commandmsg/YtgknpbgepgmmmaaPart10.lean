/- What rows of entries that came in read as. What messages that came in read as. Messages: how they are read; what is written is read back. CommandBytes: what it calls: a command cut short, what may be, the first bytes. EqEntry 69: two entries told apart. -/
import Derived.Test.YtgknpbgepgmmmaaPart09
import Derived.Deep.Slices
import Derived.Deep.Strs
import Derived.Lib.SmallJoins
import Derived.Test.YtgknpbgepgmmmaaPart07
import Derived.Test.YtgknpbgepgmmmaaPart08
import Derived.BigQuiet
namespace Go.Proofs.Ytgknpbgepgmmmaa.Cm
open Go.ChangeShapes Go.WideShapes Go.ChangeAt Go.RowKit Go.Joins
open Bn Kp

theorem four_cells {w : World} {base : Nat} {a : Addr} {cs : List Value} (h : w.cells? base a 4 = some cs) :
    ∃ c0 c1 c2 c3, cs = [c0, c1, c2, c3] ∧ w.cell? (a.add 0) = some c0 ∧ w.cell? (a.add 1) = some c1 ∧ w.cell? (a.add 2) = some c2 ∧ w.cell? (a.add 3) = some c3 := by
  unfold World.cells? at h
  split at h
  · rw [show List.range 4 = [0, 1, 2, 3] from rfl] at h
    simp only [List.mapM_cons, List.mapM_nil, Option.bind_eq_bind, Option.pure_def] at h
    cases h0 : w.cell? (a.add 0) <;> rw [h0] at h <;> simp at h
    cases h1 : w.cell? (a.add 1) <;> rw [h1] at h <;> simp at h
    cases h2 : w.cell? (a.add 2) <;> rw [h2] at h <;> simp at h
    cases h3 : w.cell? (a.add 3) <;> rw [h3] at h <;> simp at h
    exact ⟨_, _, _, _, h.symm, rfl, rfl, rfl, rfl⟩
  · cases h

set_option maxRecDepth 4000 in
/-- The cells of an entry that is read. -/
theorem ent_cells {H : Type} {enc : TypeId × Value → H} {w : World} {fuel : Nat} {c0 c1 c2 c3 : Value} {y : DataW H × List MemPlace} (h : DataW.trod enc Try.prog w 0 (fun _ => true) true fuel 90 [c0, c1, c2, c3] = some y) :
    ∃ (e : Ent) (ad : Option Addr) (ld cd : Nat), c0 = .int .i64 e.idx ∧ c1 = .int .i64 e.term ∧ c2 = .int .i64 e.kind ∧ c3 = .slice ad ld cd ∧ Sl w (.slice ad ld cd) e.data ∧ e.ok := by
  obtain ⟨y0, y1, y2, y3, n, _, _, h0, h1, h2, h3⟩ := trod_struct4 Try.underlying90 h
  rw [show Try.prog.cellsOf 2 = 1 from by kernel_rfl] at h0 h1
  rw [show Try.prog.cellsOf 3 = 1 from by kernel_rfl] at h2
  rw [show Try.prog.cellsOf 24 = 1 from by kernel_rfl] at h3
  simp only [List.drop_zero, List.take_succ_cons, List.take_zero, List.drop_succ_cons] at h0 h1 h2 h3
  obtain ⟨z0, e0, _, w0⟩ := DataW.trod_int Try.underlying2 h0
  obtain ⟨z1, e1, _, w1⟩ := DataW.trod_int Try.underlying2 h1
  obtain ⟨z2, e2, _, w2⟩ := DataW.trod_int Try.underlying3 h2
  obtain ⟨ad, ld, cd, bs, e3, hS⟩ := told8 h3
  simp at e0 e1 e2
  refine ⟨⟨z0, z1, z2, bs⟩, ad, ld, cd, e0, e1, e2, e3, hS, bounds_i64 w0, bounds_i64 w1, bounds_i64 w2, ?_⟩
  obtain ⟨_, _, e, g1, g2, _⟩ := hS
  have g2' : _ ≤ 9223372036854775807 := g2
  show bs.length ≤ _
  omega

/-- The entries of a slice that is read. -/
theorem toldE {H : Type} {enc : TypeId × Value → H} {w : World} {fuel : Nat} {v : Value} {y : DataW H × List MemPlace} (h : DataW.trod enc Try.prog w 0 (fun _ => true) true fuel 51 [v] = some y) :
    ∃ ao l c es, v = .slice ao l c ∧ Es w (.slice ao l c) es ∧ (∀ e ∈ es, e.ok) ∧ es.length ≤ 9223372036854775807 := by
  rcases Deep.open_slice Try.underlying51 h with ⟨hcs, _⟩ | ⟨a, l, c, m, n, D, Pl, hcs, _, hl, hm, hmm, _, hel⟩
  · simp at hcs
    exact ⟨_, _, _, [], hcs, ⟨none, 0, rfl, Nat.le_refl _, by simp [maxLen], fun h => by simp at h⟩, fun e h => by simp at h, by simp⟩
  · simp at hcs
    subst hcs
    simp at hmm
    have hm' : c ≤ 9223372036854775807 := hm
    have hs : ∀ i, i < l → ∃ e : Ent, (∃ ad ld cd, w.cell? ((a.add (i * 4)).add 0) = some (.int .i64 e.idx) ∧ w.cell? ((a.add (i * 4)).add 1) = some (.int .i64 e.term) ∧ w.cell? ((a.add (i * 4)).add 2) = some (.int .i64 e.kind) ∧ w.cell? ((a.add (i * 4)).add 3) = some (.slice ad ld cd) ∧ Sl w (.slice ad ld cd) e.data) ∧ e.ok := by
      intro i hi
      obtain ⟨cs', hc, ht⟩ := hel i (by omega)
      rw [show Try.prog.cellsOf 90 = 4 from by kernel_rfl] at hc
      obtain ⟨c0, c1, c2, c3, rfl, k0, k1, k2, k3⟩ := four_cells hc
      obtain ⟨e, ad, ld, cd, rfl, rfl, rfl, rfl, hS, ho⟩ := ent_cells ht
      exact ⟨e, ⟨ad, ld, cd, k0, k1, k2, k3, hS⟩, ho⟩
    haveI : Inhabited Ent := ⟨⟨0, 0, 0, []⟩⟩
    obtain ⟨f, hf⟩ := Deep.choose_lt hs
    have hL : ((List.range l).map f).length = l := by simp
    refine ⟨_, _, _, (List.range l).map f, rfl, ⟨some a, c, by rw [hL], by omega, hm, fun hp => ?_⟩, ?_, by rw [hL]; omega⟩
    · rw [hL] at hp
      obtain ⟨⟨_, _, _, h00, _⟩, _⟩ := hf 0 hp
      obtain ⟨b, off, spot⟩ := a
      have hspot : spot = none := by
        have := World.cell?_spot h00
        simpa [Addr.add] using this
      subst hspot
      refine ⟨b, off, rfl, fun j e hj => ?_⟩
      have hjl : j < l := by
        have := (List.getElem?_eq_some_iff.1 hj).1
        rw [hL] at this
        exact this
      have he : f j = e := by simpa [hjl] using hj
      obtain ⟨⟨ad, ld, cd, g0, g1, g2, g3, hS⟩, _⟩ := hf j hjl
      rw [Addr.add_lit, Addr.add_lit] at g0 g1 g2 g3
      rw [he] at g0 g1 g2 hS
      exact ⟨ad, ld, cd, by simpa using g0, g1, g2, g3, hS⟩
    · intro t ht
      simp only [List.mem_map, List.mem_range] at ht
      obtain ⟨i, hi, rfl⟩ := ht
      exact (hf i hi).2

end Go.Proofs.Ytgknpbgepgmmmaa.Cm
namespace Go.Proofs.Ytgknpbgepgmmmaa.Cm
open Go.ChangeShapes Go.WideShapes Go.ChangeAt Go.RowKit Go.Joins
open Bn Kp

theorem field_at {H : Type} {enc : TypeId × Value → H} {w : World} {fuel : Nat} {t : TypeId} {fs : Array Field} {cs : List Value} {x : DataW H × List MemPlace} (ht : Try.prog.underlying t = some (.struct fs)) (h : DataW.trod enc Try.prog w 0 (fun _ => true) true fuel t cs = some x) (i : Nat) (f : Field) (hi : fs[i]? = some f) :
    ∃ n y, DataW.trod enc Try.prog w 0 (fun _ => true) true n f.type ((cs.drop f.offset).take (Try.prog.cellsOf f.type)) = some y := by
  obtain ⟨xs, n, _, _, _, hl, hf⟩ := DataW.trod_struct ht h
  have h1 := hf i f hi
  have h2 : i < xs.length := by rw [hl]; exact (Array.getElem?_eq_some_iff.1 hi).1
  rw [List.getElem?_eq_getElem h2] at h1
  exact ⟨n, _, h1⟩
theorem array15 {α : Type} {cs : Array α} (h : cs.size = 15) : ∃ v0 v1 v2 v3 v4 v5 v6 v7 v8 v9 v10 v11 v12 v13 v14, cs = #[v0, v1, v2, v3, v4, v5, v6, v7, v8, v9, v10, v11, v12, v13, v14] := by
  obtain ⟨l⟩ := cs
  match l, h with
  | [v0, v1, v2, v3, v4, v5, v6, v7, v8, v9, v10, v11, v12, v13, v14], _ => exact ⟨v0, v1, v2, v3, v4, v5, v6, v7, v8, v9, v10, v11, v12, v13, v14, rfl⟩

set_option maxRecDepth 100000 in
theorem told_msg {H : Type} {enc : TypeId × Value → H} {w : World} {r : Reach} {b0 : Nat} {v : Value} {d : DataW H} {p : List MemPlace} (hv : Value.okWide Try.prog w r b0 54 v) (h : DataW.Trod enc Try.prog w 0 (fun _ => true) true 54 v d p) :
    ∃ (m : Mg) (ae ac ad : Option Addr) (le ce lc cc ld cd : Nat), v = .agg #[.int .i64 m.kind, .int .i64 m.frm, .int .i64 m.dst, .int .i64 m.term, .int .i64 m.idx, .int .i64 m.lterm, .int .i64 m.commit, .slice ae le ce, .bool m.ok, .int .i64 m.hint, .slice ac lc cc, .slice ad ld cd, .int .i64 m.off, .int .i64 m.size, .int .i64 m.ctx] ∧ Es w (.slice ae le ce) m.ents ∧ IsR w (.slice ac lc cc) (cI m.conf) ∧ Sl w (.slice ad ld cd) m.data ∧ m.Ok := by
  obtain ⟨cs, rfl, hsz⟩ := okWide_struct Try.underlying54 hv
  obtain ⟨v0, v1, v2, v3, v4, v5, v6, v7, v8, v9, v10, v11, v12, v13, v14, rfl⟩ := array15 (hsz.trans (show Try.prog.cellsOf 54 = 15 by kernel_rfl))
  obtain ⟨fuel, hf⟩ := h
  have k1 : Try.prog.cellsOf 2 = 1 := by kernel_rfl
  have k2 : Try.prog.cellsOf 3 = 1 := by kernel_rfl
  have k3 : Try.prog.cellsOf 4 = 1 := by kernel_rfl
  have k4 : Try.prog.cellsOf 51 = 1 := by kernel_rfl
  have k5 : Try.prog.cellsOf 52 = 1 := by kernel_rfl
  have k6 : Try.prog.cellsOf 24 = 1 := by kernel_rfl
  obtain ⟨n0, y0, g0⟩ := field_at Try.underlying54 hf 0 _ rfl
  have j0 : DataW.trod enc Try.prog w 0 (fun _ => true) true n0 3 (([v0, v1, v2, v3, v4, v5, v6, v7, v8, v9, v10, v11, v12, v13, v14].drop 0).take (Try.prog.cellsOf 3)) = some y0 := g0
  rw [k2] at j0
  have h0 : DataW.trod enc Try.prog w 0 (fun _ => true) true n0 3 [v0] = some y0 := j0
  clear g0 j0
  obtain ⟨n1, y1, g1⟩ := field_at Try.underlying54 hf 1 _ rfl
  have j1 : DataW.trod enc Try.prog w 0 (fun _ => true) true n1 3 (([v0, v1, v2, v3, v4, v5, v6, v7, v8, v9, v10, v11, v12, v13, v14].drop 1).take (Try.prog.cellsOf 3)) = some y1 := g1
  rw [k2] at j1
  have h1 : DataW.trod enc Try.prog w 0 (fun _ => true) true n1 3 [v1] = some y1 := j1
  clear g1 j1
  obtain ⟨n2, y2, g2⟩ := field_at Try.underlying54 hf 2 _ rfl
  have j2 : DataW.trod enc Try.prog w 0 (fun _ => true) true n2 3 (([v0, v1, v2, v3, v4, v5, v6, v7, v8, v9, v10, v11, v12, v13, v14].drop 2).take (Try.prog.cellsOf 3)) = some y2 := g2
  rw [k2] at j2
  have h2 : DataW.trod enc Try.prog w 0 (fun _ => true) true n2 3 [v2] = some y2 := j2
  clear g2 j2
  obtain ⟨n3, y3, g3⟩ := field_at Try.underlying54 hf 3 _ rfl
  have j3 : DataW.trod enc Try.prog w 0 (fun _ => true) true n3 2 (([v0, v1, v2, v3, v4, v5, v6, v7, v8, v9, v10, v11, v12, v13, v14].drop 3).take (Try.prog.cellsOf 2)) = some y3 := g3
  rw [k1] at j3
  have h3 : DataW.trod enc Try.prog w 0 (fun _ => true) true n3 2 [v3] = some y3 := j3
  clear g3 j3
  obtain ⟨n4, y4, g4⟩ := field_at Try.underlying54 hf 4 _ rfl
  have j4 : DataW.trod enc Try.prog w 0 (fun _ => true) true n4 2 (([v0, v1, v2, v3, v4, v5, v6, v7, v8, v9, v10, v11, v12, v13, v14].drop 4).take (Try.prog.cellsOf 2)) = some y4 := g4
  rw [k1] at j4
  have h4 : DataW.trod enc Try.prog w 0 (fun _ => true) true n4 2 [v4] = some y4 := j4
  clear g4 j4
  obtain ⟨n5, y5, g5⟩ := field_at Try.underlying54 hf 5 _ rfl
  have j5 : DataW.trod enc Try.prog w 0 (fun _ => true) true n5 2 (([v0, v1, v2, v3, v4, v5, v6, v7, v8, v9, v10, v11, v12, v13, v14].drop 5).take (Try.prog.cellsOf 2)) = some y5 := g5
  rw [k1] at j5
  have h5 : DataW.trod enc Try.prog w 0 (fun _ => true) true n5 2 [v5] = some y5 := j5
  clear g5 j5
  obtain ⟨n6, y6, g6⟩ := field_at Try.underlying54 hf 6 _ rfl
  have j6 : DataW.trod enc Try.prog w 0 (fun _ => true) true n6 2 (([v0, v1, v2, v3, v4, v5, v6, v7, v8, v9, v10, v11, v12, v13, v14].drop 6).take (Try.prog.cellsOf 2)) = some y6 := g6
  rw [k1] at j6
  have h6 : DataW.trod enc Try.prog w 0 (fun _ => true) true n6 2 [v6] = some y6 := j6
  clear g6 j6
  obtain ⟨n7, y7, g7⟩ := field_at Try.underlying54 hf 7 _ rfl
  have j7 : DataW.trod enc Try.prog w 0 (fun _ => true) true n7 51 (([v0, v1, v2, v3, v4, v5, v6, v7, v8, v9, v10, v11, v12, v13, v14].drop 7).take (Try.prog.cellsOf 51)) = some y7 := g7
  rw [k4] at j7
  have h7 : DataW.trod enc Try.prog w 0 (fun _ => true) true n7 51 [v7] = some y7 := j7
  clear g7 j7
  obtain ⟨n8, y8, g8⟩ := field_at Try.underlying54 hf 8 _ rfl
  have j8 : DataW.trod enc Try.prog w 0 (fun _ => true) true n8 4 (([v0, v1, v2, v3, v4, v5, v6, v7, v8, v9, v10, v11, v12, v13, v14].drop 8).take (Try.prog.cellsOf 4)) = some y8 := g8
  rw [k3] at j8
  have h8 : DataW.trod enc Try.prog w 0 (fun _ => true) true n8 4 [v8] = some y8 := j8
  clear g8 j8
  obtain ⟨n9, y9, g9⟩ := field_at Try.underlying54 hf 9 _ rfl
  have j9 : DataW.trod enc Try.prog w 0 (fun _ => true) true n9 2 (([v0, v1, v2, v3, v4, v5, v6, v7, v8, v9, v10, v11, v12, v13, v14].drop 9).take (Try.prog.cellsOf 2)) = some y9 := g9
  rw [k1] at j9
  have h9 : DataW.trod enc Try.prog w 0 (fun _ => true) true n9 2 [v9] = some y9 := j9
  clear g9 j9
  obtain ⟨n10, y10, g10⟩ := field_at Try.underlying54 hf 10 _ rfl
  have j10 : DataW.trod enc Try.prog w 0 (fun _ => true) true n10 52 (([v0, v1, v2, v3, v4, v5, v6, v7, v8, v9, v10, v11, v12, v13, v14].drop 10).take (Try.prog.cellsOf 52)) = some y10 := g10
  rw [k5] at j10
  have h10 : DataW.trod enc Try.prog w 0 (fun _ => true) true n10 52 [v10] = some y10 := j10
  clear g10 j10
  obtain ⟨n11, y11, g11⟩ := field_at Try.underlying54 hf 11 _ rfl
  have j11 : DataW.trod enc Try.prog w 0 (fun _ => true) true n11 24 (([v0, v1, v2, v3, v4, v5, v6, v7, v8, v9, v10, v11, v12, v13, v14].drop 11).take (Try.prog.cellsOf 24)) = some y11 := g11
  rw [k6] at j11
  have h11 : DataW.trod enc Try.prog w 0 (fun _ => true) true n11 24 [v11] = some y11 := j11
  clear g11 j11
  obtain ⟨n12, y12, g12⟩ := field_at Try.underlying54 hf 12 _ rfl
  have j12 : DataW.trod enc Try.prog w 0 (fun _ => true) true n12 3 (([v0, v1, v2, v3, v4, v5, v6, v7, v8, v9, v10, v11, v12, v13, v14].drop 12).take (Try.prog.cellsOf 3)) = some y12 := g12
  rw [k2] at j12
  have h12 : DataW.trod enc Try.prog w 0 (fun _ => true) true n12 3 [v12] = some y12 := j12
  clear g12 j12
  obtain ⟨n13, y13, g13⟩ := field_at Try.underlying54 hf 13 _ rfl
  have j13 : DataW.trod enc Try.prog w 0 (fun _ => true) true n13 3 (([v0, v1, v2, v3, v4, v5, v6, v7, v8, v9, v10, v11, v12, v13, v14].drop 13).take (Try.prog.cellsOf 3)) = some y13 := g13
  rw [k2] at j13
  have h13 : DataW.trod enc Try.prog w 0 (fun _ => true) true n13 3 [v13] = some y13 := j13
  clear g13 j13
  obtain ⟨n14, y14, g14⟩ := field_at Try.underlying54 hf 14 _ rfl
  have j14 : DataW.trod enc Try.prog w 0 (fun _ => true) true n14 2 (([v0, v1, v2, v3, v4, v5, v6, v7, v8, v9, v10, v11, v12, v13, v14].drop 14).take (Try.prog.cellsOf 2)) = some y14 := g14
  rw [k1] at j14
  have h14 : DataW.trod enc Try.prog w 0 (fun _ => true) true n14 2 [v14] = some y14 := j14
  clear g14 j14
  obtain ⟨z0, e0, _, w0⟩ := DataW.trod_int Try.underlying3 h0
  simp at e0
  subst e0
  obtain ⟨z1, e1, _, w1⟩ := DataW.trod_int Try.underlying3 h1
  simp at e1
  subst e1
  obtain ⟨z2, e2, _, w2⟩ := DataW.trod_int Try.underlying3 h2
  simp at e2
  subst e2
  obtain ⟨z3, e3, _, w3⟩ := DataW.trod_int Try.underlying2 h3
  simp at e3
  subst e3
  obtain ⟨z4, e4, _, w4⟩ := DataW.trod_int Try.underlying2 h4
  simp at e4
  subst e4
  obtain ⟨z5, e5, _, w5⟩ := DataW.trod_int Try.underlying2 h5
  simp at e5
  subst e5
  obtain ⟨z6, e6, _, w6⟩ := DataW.trod_int Try.underlying2 h6
  simp at e6
  subst e6
  obtain ⟨ae, le, ce, es, rfl, HE, HEo, HEl⟩ := toldE h7
  obtain ⟨z8, e8, _⟩ := DataW.trod_bool Try.underlying4 h8
  simp at e8
  subst e8
  obtain ⟨z9, e9, _, w9⟩ := DataW.trod_int Try.underlying2 h9
  simp at e9
  subst e9
  obtain ⟨ac, lc, cc, ns, rfl, HC, HCo, HCl⟩ := toldI h10
  obtain ⟨ad, ld, cd, bs, rfl, HD⟩ := told8 h11
  obtain ⟨z12, e12, _, w12⟩ := DataW.trod_int Try.underlying3 h12
  simp at e12
  subst e12
  obtain ⟨z13, e13, _, w13⟩ := DataW.trod_int Try.underlying3 h13
  simp at e13
  subst e13
  obtain ⟨z14, e14, _, w14⟩ := DataW.trod_int Try.underlying2 h14
  simp at e14
  subst e14
  exact ⟨⟨z0, z1, z2, z3, z4, z5, z6, es, z8, z9, ns, bs, z12, z13, z14⟩, ae, ac, ad, le, ce, lc, cc, ld, cd, rfl, HE, HC, HD, ⟨bounds_i64 w0, bounds_i64 w1, bounds_i64 w2, bounds_i64 w3, bounds_i64 w4, bounds_i64 w5, bounds_i64 w6, HEo, bounds_i64 w9, HCo, bounds_i64 w12, bounds_i64 w13, bounds_i64 w14⟩⟩

end Go.Proofs.Ytgknpbgepgmmmaa.Cm
namespace Go.Proofs.Ytgknpbgepgmmmaa.Cm
open Go.RowKit Bn Kp

theorem rEnt_t (e : Ent) (s : List UInt8) (h : e.ok) : rEnt (some (encE e ++ s)) = (e, some s) := by
  obtain ⟨h1, h2, h3, h4⟩ := h
  have e1 := rNum_i e.idx (enc e.term ++ (enc e.kind ++ (encT e.data ++ s))) h1
  have e2 := rNum_i e.term (enc e.kind ++ (encT e.data ++ s)) h2
  have e3 := rNum_i e.kind (encT e.data ++ s) h3
  have e4 := rText_t e.data s h4
  have e5 : encE e ++ s = enc e.idx ++ (enc e.term ++ (enc e.kind ++ (encT e.data ++ s))) := by simp [encE]
  rw [e5]
  simp only [rEnt, e1, e2, e3, e4]
/-- A message, read. -/
def rMg (st : R) : (Mg × R) × Bool :=
  let a0 := rNum st
  let a1 := rNum a0.2
  let a2 := rNum a1.2
  let a3 := rNum a2.2
  let a4 := rNum a3.2
  let a5 := rNum a4.2
  let a6 := rNum a5.2
  let a7 := rdLs rEnt 9223372036854775807 a6.2 false
  let a8 := rFlag a7.1.2
  let a9 := rNum a8.2
  let a10 := rdLs rNum 9223372036854775807 a9.2 a7.2
  let a11 := rText a10.1.2
  let a12 := rNum a11.2
  let a13 := rNum a12.2
  let a14 := rNum a13.2
  ((⟨a0.1, a1.1, a2.1, a3.1, a4.1, a5.1, a6.1, a7.1.1, a8.1, a9.1, a10.1.1, a11.1, a12.1, a13.1, a14.1⟩, a14.2), a10.2)
theorem rMg_enc (m : Mg) (h : m.Ok) (h1 : m.ents.length ≤ 9223372036854775807) (h2 : m.conf.length ≤ 9223372036854775807) (h3 : m.data.length ≤ 9223372036854775807) : rMg (some (encM m)) = ((m, some []), false) := by
  have f14 : ∀ n : Int, I64 n → rNum (some (enc n)) = (n, some []) := fun n hn => by have := rNum_i n [] hn; rwa [List.append_nil] at this
  have e7 := fun s => rdLs_enc rEnt encE m.ents (fun x hx s => rEnt_t x s (h.ents x hx)) 9223372036854775807 (by omega) (by omega) s
  have e10 := fun s => rdLs_enc rNum enc m.conf (fun x hx s => rNum_i x s (h.conf x hx)) 9223372036854775807 (by omega) (by omega) s
  have e11 := fun s => rText_t m.data s h3
  simp only [rMg, encM, rNum_i _ _ h.kind, rNum_i _ _ h.frm, rNum_i _ _ h.dst, rNum_i _ _ h.term, rNum_i _ _ h.idx, rNum_i _ _ h.lterm, rNum_i _ _ h.commit, e7, rFlag_fl, rNum_i _ _ h.hint, e10, e11, rNum_i _ _ h.off, rNum_i _ _ h.size, f14 _ h.ctx]

theorem rNum_backR {st : R} {n : Int} {r : List UInt8} (h : rNum st = (n, some r)) : ∃ bs, st = some bs ∧ bs = enc n ++ r := by
  match st with
  | none => simp [rNum] at h
  | some bs => exact ⟨bs, rfl, rNum_back bs r n h⟩
theorem rEnt_back {st : R} {e : Ent} {r : List UInt8} (h : rEnt st = (e, some r)) : ∃ bs, st = some bs ∧ bs = encE e ++ r := by
  obtain ⟨a0, s0, e0⟩ : ∃ n s, rNum st = (n, s) := ⟨_, _, rfl⟩
  obtain ⟨a1, s1, e1⟩ : ∃ n s, rNum s0 = (n, s) := ⟨_, _, rfl⟩
  obtain ⟨a2, s2, e2⟩ : ∃ n s, rNum s1 = (n, s) := ⟨_, _, rfl⟩
  obtain ⟨a3, s3, e3⟩ : ∃ n s, rText s2 = (n, s) := ⟨_, _, rfl⟩
  simp only [rEnt, e0, e1, e2, e3, Prod.mk.injEq] at h
  obtain ⟨rfl, rfl⟩ := h
  obtain ⟨b3, rfl, f3⟩ := rText_back e3
  obtain ⟨b2, rfl, f2⟩ := rNum_backR e2
  obtain ⟨b1, rfl, f1⟩ := rNum_backR e1
  obtain ⟨b0, rfl, f0⟩ := rNum_backR e0
  refine ⟨b0, rfl, ?_⟩
  rw [f0, f1, f2, f3]
  simp [encE]
theorem rdLs_wr {α : Type} (one : R → α × R) (most : Int) (st : R) (wr : Bool) (h : (rdLs one most st wr).2 = false) : wr = false := by
  cases wr
  · rfl
  · simp [rdLs] at h
theorem rMg_back (bs : List UInt8) (h : okB (rMg (some bs)).1.2 (rMg (some bs)).2 = true) : encM (rMg (some bs)).1.1 = bs := by
  obtain ⟨h1, h2⟩ := (okB_iff _ _).1 h
  obtain ⟨n0, s0, e0⟩ : ∃ n s, rNum (some bs) = (n, s) := ⟨_, _, rfl⟩
  obtain ⟨n1, s1, e1⟩ : ∃ n s, rNum s0 = (n, s) := ⟨_, _, rfl⟩
  obtain ⟨n2, s2, e2⟩ : ∃ n s, rNum s1 = (n, s) := ⟨_, _, rfl⟩
  obtain ⟨n3, s3, e3⟩ : ∃ n s, rNum s2 = (n, s) := ⟨_, _, rfl⟩
  obtain ⟨n4, s4, e4⟩ : ∃ n s, rNum s3 = (n, s) := ⟨_, _, rfl⟩
  obtain ⟨n5, s5, e5⟩ : ∃ n s, rNum s4 = (n, s) := ⟨_, _, rfl⟩
  obtain ⟨n6, s6, e6⟩ : ∃ n s, rNum s5 = (n, s) := ⟨_, _, rfl⟩
  obtain ⟨n7, s7, v7, e7⟩ : ∃ n s x, rdLs rEnt 9223372036854775807 s6 false = ((n, s), x) := ⟨_, _, _, rfl⟩
  obtain ⟨n8, s8, e8⟩ : ∃ n s, rFlag s7 = (n, s) := ⟨_, _, rfl⟩
  obtain ⟨n9, s9, e9⟩ : ∃ n s, rNum s8 = (n, s) := ⟨_, _, rfl⟩
  obtain ⟨n10, s10, v10, e10⟩ : ∃ n s x, rdLs rNum 9223372036854775807 s9 v7 = ((n, s), x) := ⟨_, _, _, rfl⟩
  obtain ⟨n11, s11, e11⟩ : ∃ n s, rText s10 = (n, s) := ⟨_, _, rfl⟩
  obtain ⟨n12, s12, e12⟩ : ∃ n s, rNum s11 = (n, s) := ⟨_, _, rfl⟩
  obtain ⟨n13, s13, e13⟩ : ∃ n s, rNum s12 = (n, s) := ⟨_, _, rfl⟩
  obtain ⟨n14, s14, e14⟩ : ∃ n s, rNum s13 = (n, s) := ⟨_, _, rfl⟩
  have HE : rMg (some bs) = ((⟨n0, n1, n2, n3, n4, n5, n6, n7, n8, n9, n10, n11, n12, n13, n14⟩, s14), v10) := by simp only [rMg, e0, e1, e2, e3, e4, e5, e6, e7, e8, e9, e10, e11, e12, e13, e14]
  rw [HE] at h1 h2 ⊢
  dsimp only at h1 h2 ⊢
  subst h1 h2
  obtain ⟨b14, rfl, f14⟩ := rNum_backR e14
  obtain ⟨b13, rfl, f13⟩ := rNum_backR e13
  obtain ⟨b12, rfl, f12⟩ := rNum_backR e12
  obtain ⟨b11, rfl, f11⟩ := rText_back e11
  have hv7 := rdLs_wr _ _ _ _ (show (rdLs rNum 9223372036854775807 s9 v7).2 = false by rw [e10])
  subst hv7
  obtain ⟨b10, rfl, f10⟩ := rdLs_back rNum enc (fun h => rNum_backR h) _ _ _ _ e10
  obtain ⟨b9, rfl, f9⟩ := rNum_backR e9
  obtain ⟨b8, rfl, f8⟩ := rFlag_back e8
  obtain ⟨b7, rfl, f7⟩ := rdLs_back rEnt encE (fun h => rEnt_back h) _ _ _ _ e7
  obtain ⟨b6, rfl, f6⟩ := rNum_backR e6
  obtain ⟨b5, rfl, f5⟩ := rNum_backR e5
  obtain ⟨b4, rfl, f4⟩ := rNum_backR e4
  obtain ⟨b3, rfl, f3⟩ := rNum_backR e3
  obtain ⟨b2, rfl, f2⟩ := rNum_backR e2
  obtain ⟨b1, rfl, f1⟩ := rNum_backR e1
  have f0 := rNum_back _ _ _ e0
  rw [encM, f0, f1, f2, f3, f4, f5, f6, f7, f8, f9, f10, f11, f12, f13, f14]
  simp

end Go.Proofs.Ytgknpbgepgmmmaa.Cm
namespace Go.Proofs.Ytgknpbgepgmmmaa.Cm
open Go.RowKit Bn Kp

theorem cutS200 (t : List UInt8) (W : World) (hl : t.length ≤ 9223372036854775807) :
    Calls Try.prog 29 #[tx t, .int .i64 200] W fun e w' => e = .returned (tx (t.take 200)) ∧ w' = W := by
  have hs := tx_size t
  obtain ⟨T, hT⟩ : ∃ T : ByteArray, Hid (⟨t.toArray⟩ = T) := ⟨_, (rfl : _ = _)⟩
  obtain ⟨U, hU⟩ : ∃ U : ByteArray, Hid (⟨(t.take 200).toArray⟩ = U) := ⟨_, (rfl : _ = _)⟩
  rw [tx, tx, hT.out, hU.out]
  rw [hT.out] at hs
  by_cases h : 200 < t.length
  · have hI : (200 : Int) < ((T.size : Nat) : Int) := by omega
    have he : Hid (T.extract 0 200 = U) := by
      show _ = _
      rw [← hT.out, ← hU.out]
      apply ByteArray.ext
      simp [ByteArray.extract, ByteArray.copySlice]
    clear hs h
    go_enter Try.func29, Try.ntmps29
    go_wp2_with fail
    go_ret
    rw [he.out]
    exact ⟨rfl, rfl⟩
  · have hI : ¬ (200 : Int) < ((T.size : Nat) : Int) := by omega
    have he : Hid (T = U) := by
      show _ = _
      rw [← hT.out, ← hU.out, List.take_of_length_le (by omega)]
    clear hs h
    rw [← he.out]
    go_enter Try.func29, Try.ntmps29
    go_wp2_with fail
    go_ret
    exact ⟨rfl, rfl⟩

set_option maxRecDepth 4000 in
set_option maxHeartbeats 2000000 in
theorem mayRef_any (k c q : Int) (t : ByteArray) (w : World) :
    Calls Try.prog 11 #[.agg #[.int .i64 k, .int .i64 c, .int .i64 q, .string t]] w fun e w' => e = .returned (.bool (mayB k c q t.size)) ∧ Hid (Below w.heap.size w w') := by
  have HB := hide ((Below.refl _ w).alloc (Nat.le_refl _) (.cells #[.int .i64 k, .int .i64 c, .int .i64 q, .string t] 23))
  obtain ⟨m, hm⟩ : ∃ m, Hid (mayB k c q t.size = m) := ⟨_, (rfl : _ = _)⟩
  rw [hm.out]
  have hc : (m = false ∧ (¬ 1 ≤ k ∨ (1 ≤ k ∧ ¬ k ≤ 4) ∨ (1 ≤ k ∧ k ≤ 4 ∧ ¬ 1 ≤ c) ∨ (1 ≤ k ∧ k ≤ 4 ∧ 1 ≤ c ∧ ¬ c ≤ 8) ∨ (1 ≤ k ∧ k ≤ 4 ∧ 1 ≤ c ∧ c ≤ 8 ∧ ¬ 1 ≤ q) ∨ (1 ≤ k ∧ k ≤ 4 ∧ 1 ≤ c ∧ c ≤ 8 ∧ 1 ≤ q ∧ ¬ q ≤ 1099511627776) ∨ (1 ≤ k ∧ k ≤ 4 ∧ 1 ≤ c ∧ c ≤ 8 ∧ 1 ≤ q ∧ q ≤ 1099511627776 ∧ ¬ (t.size : Int) ≤ 4000))) ∨ (m = true ∧ (1 ≤ k ∧ k ≤ 4 ∧ 1 ≤ c ∧ c ≤ 8 ∧ 1 ≤ q ∧ q ≤ 1099511627776 ∧ (t.size : Int) ≤ 4000)) := by
    have h := mayB_iff k c q t.size
    rw [hm.out] at h
    cases m
    · left
      refine ⟨rfl, ?_⟩
      have h' : ¬ (1 ≤ k ∧ k ≤ 4 ∧ 1 ≤ c ∧ c ≤ 8 ∧ 1 ≤ q ∧ q ≤ 1099511627776 ∧ (t.size : Int) ≤ 4000) := fun x => Bool.false_ne_true (h.2 x)
      clear h
      omega
    · exact Or.inr ⟨rfl, h.1 rfl⟩
  rcases hc with ⟨rfl, h1 | ⟨h1, h2⟩ | ⟨h1, h2, h3⟩ | ⟨h1, h2, h3, h4⟩ | ⟨h1, h2, h3, h4, h5⟩ | ⟨h1, h2, h3, h4, h5, h6⟩ | ⟨h1, h2, h3, h4, h5, h6, h7⟩⟩ | ⟨rfl, h1, h2, h3, h4, h5, h6, h7⟩
  all_goals
    go_enter Try.func11, Try.ntmps11
    go_wp2_with fail
    go_ret
    exact ⟨rfl, HB.out⟩


set_option maxRecDepth 4000 in
/-- The first bytes of a slice. -/
theorem first_any {w : World} {v : Value} {bs : List UInt8} (h : Sl w v bs) (hl : bs.length ≤ 9223372036854775807) :
    Calls Try.prog 14 #[v, .int .i64 5] w fun e w' => ∃ v', e = .returned v' ∧ w' = w ∧ Hid (Sl w v' (bs.take 5)) := by
  obtain ⟨ao, cap, rfl, h1, h2⟩ := h.shape
  by_cases hx : 5 < bs.length
  · have hI : (5 : Int) < ((bs.length : Nat) : Int) := by omega
    have hT := hide (h.take 5 (by omega))
    obtain ⟨N, hN⟩ : ∃ N, Hid (bs.length = N) := ⟨_, (rfl : _ = _)⟩
    rw [hN.out] at hI h1 ⊢
    have hc : (5 : Int) ≤ (cap : Int) := by omega
    clear hx h hl
    go_enter Try.func14, Try.ntmps14
    go_wp2_with fail
    go_ret
    exact ⟨_, rfl, rfl, hT⟩
  · have hI : ¬ (5 : Int) < ((bs.length : Nat) : Int) := by omega
    have hT : Hid (Sl w (.slice ao bs.length cap) (bs.take 5)) := by
      have e : bs.take 5 = bs := List.take_of_length_le (by omega)
      show Sl _ _ _
      rw [e]; exact h
    obtain ⟨N, hN⟩ : ∃ N, Hid (bs.length = N) := ⟨_, (rfl : _ = _)⟩
    rw [hN.out] at hI hT ⊢
    clear hx h hl
    go_enter Try.func14, Try.ntmps14
    go_wp2_with fail
    go_ret
    exact ⟨_, rfl, rfl, hT⟩

set_option maxRecDepth 4000 in
set_option maxHeartbeats 4000000 in
/-- A command cut short. -/
theorem cutC (k c q : Int) (t : List UInt8) (w : World) (hl : t.length ≤ 9223372036854775807) :
    Calls Try.prog 9 #[.agg #[.int .i64 k, .int .i64 c, .int .i64 q, tx t]] w fun e w' => e = .returned (.agg #[.int .i64 k, .int .i64 c, .int .i64 q, tx (t.take 200)]) ∧ Hid (Below w.heap.size w w') := by
  obtain ⟨W, hW⟩ : ∃ W, Hid (W = (w.alloc (.cells #[.int .i64 k, .int .i64 c, .int .i64 q, tx t] 23)).alloc (.cells #[.int .i64 0, .int .i64 0, .int .i64 0, .string ⟨#[]⟩] 23)) := ⟨_, (rfl : _ = _)⟩
  have HB : Hid (Below w.heap.size w W) := by rw [hW.out]; exact ((Below.refl _ w).alloc (Nat.le_refl _) _).alloc (by simp) _
  have h1 : W.heap[w.heap.size]? = some (.cells #[.int .i64 k, .int .i64 c, .int .i64 q, tx t] 23 (0, 0)) := by
    rw [hW.out]
    exact (((Below.refl _ _).alloc (Nat.le_refl _) _).block w.heap.size (by simp)).trans (heap_alloc_new _ _)
  have h2 : W.heap[w.heap.size + 1]? = some (.cells #[.int .i64 0, .int .i64 0, .int .i64 0, .string ⟨#[]⟩] 23 (0, 0)) := by rw [hW.out]; exact heap_alloc2_new _ _ _
  obtain ⟨x0, x1, x2, x3⟩ := cells_Cmd h1
  have fx := fun i => frozen_of_row W _ i _ _ h1
  obtain ⟨z0, z1, z2, z3⟩ := cells_Cmd h2
  have zz := fun i => frozen_of_row W _ i _ _ h2
  have HCS := hide (cutS200 t W hl)
  have HBX := hide (fun v => (Below.heap_setCell W ⟨w.heap.size, 3, none⟩ v (w.heap.size + 1) (show w.heap.size + 1 ≠ w.heap.size by omega)).trans h2)
  obtain ⟨A, hA⟩ : ∃ A, Hid (tx t = A) := ⟨_, (rfl : _ = _)⟩
  obtain ⟨s, hs⟩ : ∃ s : ByteArray, Hid ((⟨(t.take 200).toArray⟩ : ByteArray) = s) := ⟨_, (rfl : _ = _)⟩
  clear h1 h2
  go_enter Try.func9, Try.ntmps9
  go_upto_region 1 with fail
  rw [← hW.out]
  go_wp2_with fail
  refine Calls.mono HCS.out ?_
  rintro e w5 ⟨rfl, hw5⟩
  have hw5' := hw5.symm
  subst hw5'
  clear hw5
  go_wp2_with fail
  refine bodyPost_ret (results_cell_row rfl _ _ (w.heap.size + 1) 23 _ (0, 0) _ rfl (set_Cmd (b := w.heap.size) _ _ _ _ (HBX.out _) (by omega)).1 Try.underlying23 rfl sz_Cmd) rfl ?_
  exact ⟨rfl, (HB.out.setCell (p := ⟨w.heap.size, 3, none⟩) (Nat.le_refl _) _).trans (set_Cmd (b := w.heap.size) _ _ _ _ (HBX.out _) (by omega)).2⟩

end Go.Proofs.Ytgknpbgepgmmmaa.Cm
namespace Go.Proofs.Ytgknpbgepgmmmaa.Cm
open Go.RowKit Bn Kp

/-- Two entries that are the same. -/
def eqE (e f : Ent) : Bool := decide (e.idx = f.idx ∧ e.term = f.term ∧ e.kind = f.kind ∧ e.data = f.data)
theorem eqE_iff (e f : Ent) : eqE e f = true ↔ e = f := by
  cases e; cases f; simp [eqE]
theorem cells_E {W : World} {g : Nat} {x0 x1 x2 x3 : Value} (h : W.heap[g]? = some (.cells #[x0, x1, x2, x3] 90 (0, 0))) :
    W.cell? ⟨g, 0, none⟩ = some x0 ∧ W.cell? ⟨g, 1, none⟩ = some x1 ∧ W.cell? ⟨g, 2, none⟩ = some x2 ∧ W.cell? ⟨g, 3, none⟩ = some x3 := by
  refine ⟨?_, ?_, ?_, ?_⟩ <;> rw [cell_of_row W g _ _ 90 (0, 0) h] <;> rfl

set_option maxRecDepth 4000 in
set_option maxHeartbeats 4000000 in
theorem eqEnt_any {w : World} (e f : Ent) {au av : Option Addr} {lu cu lv cv : Nat} (hu : Sl w (.slice au lu cu) e.data) (hv : Sl w (.slice av lv cv) f.data) :
    Calls Try.prog 69 #[.agg #[.int .i64 e.idx, .int .i64 e.term, .int .i64 e.kind, .slice au lu cu], .agg #[.int .i64 f.idx, .int .i64 f.term, .int .i64 f.kind, .slice av lv cv]] w fun en w' => en = .returned (.bool (eqE e f)) ∧ Hid (Below w.heap.size w w') := by
  obtain ⟨W, hW⟩ : ∃ W, Hid (W = (w.alloc (.cells #[.int .i64 e.idx, .int .i64 e.term, .int .i64 e.kind, .slice au lu cu] 90)).alloc (.cells #[.int .i64 f.idx, .int .i64 f.term, .int .i64 f.kind, .slice av lv cv] 90)) := ⟨_, (rfl : _ = _)⟩
  have HB : Hid (Below w.heap.size w W) := by rw [hW.out]; exact ((Below.refl _ w).alloc (Nat.le_refl _) _).alloc (by simp) _
  have h1 : W.heap[w.heap.size]? = some (.cells #[.int .i64 e.idx, .int .i64 e.term, .int .i64 e.kind, .slice au lu cu] 90 (0, 0)) := by
    rw [hW.out]
    exact (((Below.refl _ _).alloc (Nat.le_refl _) _).block w.heap.size (by simp)).trans (heap_alloc_new _ _)
  have h2 : W.heap[w.heap.size + 1]? = some (.cells #[.int .i64 f.idx, .int .i64 f.term, .int .i64 f.kind, .slice av lv cv] 90 (0, 0)) := by rw [hW.out]; exact heap_alloc2_new _ _ _
  obtain ⟨x0, x1, x2, x3⟩ := cells_E h1
  obtain ⟨y0, y1, y2, y3⟩ := cells_E h2
  obtain ⟨X, hX⟩ : ∃ X : ByteArray, Hid (⟨e.data.toArray⟩ = X) := ⟨_, (rfl : _ = _)⟩
  obtain ⟨Y, hY⟩ : ∃ Y : ByteArray, Hid (⟨f.data.toArray⟩ = Y) := ⟨_, (rfl : _ = _)⟩
  have cX := conv_sl_any (hu.below HB.out) hX.out
  have cY := conv_sl_any (hv.below HB.out) hY.out
  have hXY : (X.toList == Y.toList) = decide (e.data = f.data) := by rw [← hX.out, ← hY.out]; exact beq_tx _ _
  obtain ⟨m, hm⟩ : ∃ m, Hid (eqE e f = m) := ⟨_, (rfl : _ = _)⟩
  have hc : (m = false ∧ ((e.idx == f.idx) = false ∨ ((e.idx == f.idx) = true ∧ (e.term == f.term) = false) ∨ ((e.idx == f.idx) = true ∧ (e.term == f.term) = true ∧ (e.kind == f.kind) = false) ∨ ((e.idx == f.idx) = true ∧ (e.term == f.term) = true ∧ (e.kind == f.kind) = true ∧ (X.toList == Y.toList) = false))) ∨ (m = true ∧ (e.idx == f.idx) = true ∧ (e.term == f.term) = true ∧ (e.kind == f.kind) = true ∧ (X.toList == Y.toList) = true) := by
    have h := hm.out
    rw [hXY]
    simp only [eqE] at h
    by_cases a0 : e.idx = f.idx
    · by_cases a1 : e.term = f.term
      · by_cases a2 : e.kind = f.kind
        · by_cases a3 : e.data = f.data
          · right; simp [a0, a1, a2, a3] at h ⊢; exact h
          · left; simp [a0, a1, a2, a3] at h ⊢; exact h
        · left; simp [a0, a1, a2] at h ⊢; exact h
      · left; simp [a0, a1] at h ⊢; exact h
    · left; simp [a0] at h ⊢; exact h
  rw [hm.out]
  clear hXY h1 h2 hu hv
  rcases hc with ⟨rfl, g0 | ⟨g0, g1⟩ | ⟨g0, g1, g2⟩ | ⟨g0, g1, g2, g3⟩⟩ | ⟨rfl, g0, g1, g2, g3⟩
  all_goals
    go_enter Try.func69, Try.ntmps69
    go_upto_region 1 with fail
    rw [← hW.out]
    go_wp2_with fail
    go_ret
    exact ⟨rfl, HB⟩

end Go.Proofs.Ytgknpbgepgmmmaa.Cm

/- strings.Clone: the library's contract, laid at this program's own numbers. The walk of Arities. The reference's Program: what holds ahead of each round of its two loops. The walk of the reference's Program. -/
import Derived.Test.YtienpejlfjhnmaaRows
import Derived.Shelf.Strconv.Clone
import Derived.WalkKit
import Derived.Test.YtienpejlfjhnmaaPart13
import Derived.Test.YtienpejlfjhnmaaPart10
import Derived.Test.YtienpejlfjhnmaaPart11
import Derived.Deep.CutBlock
namespace Go.Proofs.Ytienpejlfjhnmaa
def Try.laysM316_ren : Go.Shelf.Ren := ⟨fun | 316 => 33 | n => n, fun | 9 => 9 | 3 => 3 | 4 => 4 | 37 => 47 | 0 => 0 | 127 => 87 | 5 => 5 | n => n, fun | n => n⟩
theorem Try.laysM316 : Go.Proofs.LaysM.n316 Try.prog Try.laysM316_ren := {
  mixed := by kernel_rfl
  f316 := Try.func33.trans (congrArg some (by kernel_rfl))
  t0 := Try.underlying0
  a0 := Try.isAgg0
  z0 := Try.sizeOf0
  v0 := Try.zeroValue0
  t3 := Try.underlying3
  a3 := Try.isAgg3
  z3 := Try.sizeOf3
  v3 := Try.zeroValue3
  t4 := Try.underlying4
  a4 := Try.isAgg4
  z4 := Try.sizeOf4
  v4 := Try.zeroValue4
  t9 := Try.underlying9
  a9 := Try.isAgg9
  z9 := Try.sizeOf9
  v9 := Try.zeroValue9
  t37 := Try.underlying47
  a37 := Try.isAgg47
  z37 := Try.sizeOf47
  v37 := Try.zeroValue47
  t127 := Try.underlying87
  a127 := Try.isAgg87
  z127 := Try.sizeOf87
  v127 := Try.zeroValue87
  t5 := Try.underlying5
  a5 := Try.isAgg5
  z5 := Try.sizeOf5
  v5 := Try.zeroValue5
  i0 := by kernel_rfl
  i3 := by kernel_rfl
  i4 := by kernel_rfl
  i5 := by kernel_rfl
  i9 := by kernel_rfl
  i37 := by kernel_rfl
  i127 := by kernel_rfl }
open Go.RowKit in
theorem Try.stringslite_Clone (s : ByteArray) (w : World) (hlim : s.size ≤ 281474976710656) :
    Calls Try.prog 33 #[.string s] w fun e w' => e = .returned (.string s) ∧ Below w.heap.size w w' := Any.stringslite_Clone Try.laysM316 s w hlim

open Go.RowKit in
theorem clone_any (s : ByteArray) (w : World) (hs : s.size ≤ 281474976710656) : Calls Try.prog 22 #[.string s] w fun e w' => e = .returned (.string s) ∧ Below w.heap.size w w' := by
  go_enter Try.func22, Try.ntmps22
  go_wp2_with (go_at_call 33; refine (Try.stringslite_Clone s _ hs).mono ?_; rintro e w' ⟨rfl, hb⟩)
  go_ret
  exact ⟨rfl, hb⟩
end Go.Proofs.Ytienpejlfjhnmaa
namespace Go.Proofs.Ytienpejlfjhnmaa.Ck
open Go.RowKit Go.Shelf
open Vl (Tm Ts Fr)
open Sy

def hasN (m : List Raw) (s : ByteArray) : Bool := m.any fun y => y.1.data.toList == s.data.toList
def widN (m : List Raw) (s : ByteArray) : Option Nat := (m.find? fun y => y.1.data.toList == s.data.toList).map (·.2)
def addN (m : List Raw) (x : Raw) : List Raw := if hasN m x.1 = true then m else m ++ [x]
def okN (m : List Raw) (x : Raw) : Bool := match widN m x.1 with
  | some k => k == x.2
  | none => true
def stepN (st : List Raw × Bool) (x : Raw) : List Raw × Bool := (addN st.1 x, st.2 && okN st.1 x)
/-- The predicates of places, in the order in which they stand first, and whether each has one width. -/
def foldN (l : List Raw) : List Raw × Bool := l.foldl stepN ([], true)
theorem foldN_snoc (l : List Raw) (x : Raw) : foldN (l ++ [x]) = stepN (foldN l) x := by simp [foldN]
theorem foldN_mono (l r : List Raw) (h : (foldN l).2 = false) : (foldN (l ++ r)).2 = false := by
  have key : ∀ (r : List Raw) (st : List Raw × Bool), st.2 = false → (r.foldl stepN st).2 = false := fun r => by
    induction r with
    | nil => exact fun st h => h
    | cons x r ih => exact fun st h => ih _ (by simp [stepN, h])
  rw [foldN, List.foldl_append]
  exact key r _ h
theorem wid_has (m : List Raw) (s : ByteArray) : hasN m s = (widN m s).isSome := by
  unfold hasN widN
  rw [Option.isSome_map]
  induction m with
  | nil => rfl
  | cons y m ih =>
    rw [List.any_cons, List.find?_cons]
    cases hq : (y.1.data.toList == s.data.toList) with
    | true => rfl
    | false => rw [Bool.false_or, ih]

/-- A map from names to widths, as it is read. -/
structure MapOf (D : DataW Unit) (m : List Raw) : Prop where
  is : Maps.IsMap D
  size : Maps.size D = m.length
  has : ∀ s : ByteArray, Maps.has D (.string s.data.toList) = hasN m s
  at' : ∀ s : ByteArray, D.atKey (.string s.data.toList) (.lit (.int .i64 0)) = .lit (.int .i64 (((widN m s).getD 0 : Nat) : Int))
theorem MapOf.nil : MapOf (.map []) [] := ⟨⟨[], rfl⟩, rfl, fun _ => rfl, fun _ => rfl⟩
theorem MapOf.put {D : DataW Unit} {m : List Raw} (h : MapOf D m) (ht : Maps.Tidy D) (x : Raw) (hx : hasN m x.1 = false) : MapOf (D.put (.string x.1.data.toList) (.lit (.int .i64 (x.2 : Int)))) (m ++ [x]) := by
  have hm : Maps.IsMap (D.put (.string x.1.data.toList) (.lit (.int .i64 (x.2 : Int)))) := by
    obtain ⟨es, rfl⟩ := h.is
    exact ⟨_, rfl⟩
  have hw : widN m x.1 = none := by
    have := wid_has m x.1
    rw [hx] at this
    cases hq : widN m x.1 with
    | none => rfl
    | some k => rw [hq] at this; cases this
  refine ⟨hm, ?_, fun s => ?_, fun s => ?_⟩
  · rw [Maps.size_put ht, h.has, hx, h.size]
    simp
  · by_cases hs : s.data.toList = x.1.data.toList
    · rw [hs, Maps.has_put_same h.is key_str]
      unfold hasN
      rw [List.any_append, hs]
      simp
    · have hne : (x.1.data.toList == s.data.toList) = false := by rw [beq_eq_false_iff_ne]; exact fun e => hs e.symm
      rw [Maps.has_put_other (fun e => hs (by simpa using e)), h.has]
      unfold hasN
      rw [List.any_append, List.any_cons, List.any_nil, hne]
      simp
  · by_cases hs : s.data.toList = x.1.data.toList
    · have e1 : widN (m ++ [x]) s = some x.2 := by
        have hw' : (m.find? fun y => y.1.data.toList == s.data.toList) = none := by
          unfold widN at hw
          rw [hs]
          simpa using hw
        unfold widN
        rw [List.find?_append, hw', hs]
        simp
      rw [hs, Maps.atKey_put_same h.is key_str, e1]
      rfl
    · have hne : (x.1.data.toList == s.data.toList) = false := by rw [beq_eq_false_iff_ne]; exact fun e => hs e.symm
      rw [Maps.atKey_put_other (fun e => hs (by simpa using e)), h.at']
      unfold widN
      rw [List.find?_append, List.find?_cons, hne]
      simp

/-- What Arities has in memory. -/
structure Ar (w X : World) (N : Nat) (D : DataW Unit) (r4 r5 : Value) : Prop where
  c4 : Bx X w.heap.size 33 #[r4]
  c5 : Bx X (w.heap.size + 1) 34 #[r5]
  c6 : Bx X (w.heap.size + 3) 33 #[.map (some (w.heap.size + 2))]
  own : X.ownsMap Try.prog 9 (plainElem (H := Unit) Try.prog 3) (w.heap.size + 2) N D
  below : Below w.heap.size w X
theorem Ar.fr {w X X' : World} {N : Nat} {D : DataW Unit} {r4 r5 : Value} (h : Ar w X N D r4 r5) {F : Nat → Prop} (hf : Fr F X X') (hF : ∀ k, k < w.heap.size + 4 → F k → False) : Ar w X' N D r4 r5 :=
  ⟨h.c4.fr hf (hF _ (by omega)), h.c5.fr hf (hF _ (by omega)), h.c6.fr hf (hF _ (by omega)), ownsMap_fr h.own hf (hF _ (by omega)), h.below.trans (hf.below (fun k hk => by
    by_cases hl : k < w.heap.size
    · exact (hF k (by omega) hk).elim
    · omega) h.below.size)⟩
theorem Ar.grown {w A B : World} {N : Nat} {D : DataW Unit} {r4 r5 : Value} (h : Ar w A N D r4 r5) {row : Option Nat} (hg : A.grownBy B row) (hr : ∀ r, row = some r → w.heap.size + 4 ≤ r) : Ar w B N D r4 r5 :=
  h.fr (F := fun k => row = some k) (Vl.Fr.of_grown hg (fun k e => e)) (fun k hk e => by have := hr k e; omega)
theorem Ar.below' {w X X' : World} {N : Nat} {D : DataW Unit} {r4 r5 : Value} (h : Ar w X N D r4 r5) (hb : Below X.heap.size X X') : Ar w X' N D r4 r5 := h.fr (F := fun _ => False) (Fr.of_below hb) (fun _ _ e => e)
theorem Ar.set {w X : World} {N : Nat} {D : DataW Unit} {r4 r5 : Value} (h : Ar w X N D r4 r5) (s4 s5 : Value) : Ar w ((X.setCell ⟨w.heap.size, 0, none⟩ s4).setCell ⟨w.heap.size + 1, 0, none⟩ s5) N D s4 s5 := by
  have hf : Fr (fun k => k = w.heap.size) X (X.setCell ⟨w.heap.size, 0, none⟩ s4) := Vl.Fr.one X _ 0 _
  have hf2 : Fr (fun k => k = w.heap.size + 1) (X.setCell ⟨w.heap.size, 0, none⟩ s4) ((X.setCell ⟨w.heap.size, 0, none⟩ s4).setCell ⟨w.heap.size + 1, 0, none⟩ s5) := Vl.Fr.one _ _ 0 _
  exact ⟨(h.c4.set 0 s4).fr hf2 (by omega), (h.c5.fr hf (by omega)).set 0 s5, (h.c6.fr hf (by omega)).fr hf2 (by omega), ownsMap_fr (ownsMap_fr h.own hf (by omega)) hf2 (by omega),
    (h.below.setCell (p := ⟨w.heap.size, 0, none⟩) (Nat.le_refl _) _).setCell (p := ⟨w.heap.size + 1, 0, none⟩) (by show w.heap.size ≤ w.heap.size + 1; omega) _⟩

theorem castP_all {l : List Raw} (h : ∀ x ∈ l, okP x) : (castP l).map (·.1) = l := by
  induction l with
  | nil => rfl
  | cons x l ih =>
    have hx : mkP x = some ⟨x, h x (by simp)⟩ := by simp [mkP, h x (by simp)]
    have h2 := ih (fun y hy => h y (by simp [hy]))
    unfold castP at h2 ⊢
    rw [List.filterMap_cons, hx]
    simp only [List.map_cons, h2]
/-- Behind a round that has laid a new name into the map. -/
theorem Ar_end {w X w2 w3 W1 : World} {pre : List Pr} {x : Pr} {D : DataW Unit} (hA : Ar w w2 pre.length D (.map none) (.int .i64 0)) (hb : Below X.heap.size X w2) (hM : MapOf D (foldN (pre.map (·.1))).1) (hno : hasN (foldN (pre.map (·.1))).1 x.1.1 = false)
    (hp : (foldN ((pre ++ [x]).map (·.1))).2 = true ∧ (foldN ((pre ++ [x]).map (·.1))).1 = (foldN (pre.map (·.1))).1 ++ [x.1])
    (ho : w3.ownsMap Try.prog 9 (plainElem (H := Unit) Try.prog 3) (w.heap.size + 1 + 1) (pre.length + 1) (D.put (.string x.1.1.data.toList) (.lit (.int .i64 (x.1.2 : Int))))) (hg : w2.grownBy w3 (some (w.heap.size + 1 + 1))) (hz : w.heap.size + 2 < W1.heap.size) :
    KeepsFrom W1.heap.size X w3 ∧ Kc X w3 ∧ (Hid (∃ D, Ar w w3 (pre ++ [x]).length D (.map none) (.int .i64 0) ∧ MapOf D (foldN ((pre ++ [x]).map (·.1))).1)) ∧ (foldN ((pre ++ [x]).map (·.1))).2 = true := by
  have hfr : Fr (fun k => k = w.heap.size + 2) w2 w3 := Vl.Fr.of_grown hg (fun k e => by cases e; rfl)
  refine ⟨KeepsFrom.trans ⟨hb.size, fun k o _ hk _ => (hb.block k (Array.getElem?_eq_some_iff.1 hk).1).trans hk⟩ (KeepsFrom.of_grownBy hg (fun j e => by cases e; exact hz)), (Kc.of_below hb).trans (Kc.grown hg (fun r e => ?_)), ⟨D.put (.string x.1.1.data.toList) (.lit (.int .i64 (x.1.2 : Int))), ⟨hA.c4.fr hfr (by omega), hA.c5.fr hfr (by omega), hA.c6.fr hfr (by omega), ?_, ?_⟩, ?_⟩, hp.1⟩
  · cases e
    obtain ⟨es, ck, hh, _⟩ := hA.own
    exact ⟨_, hh, rfl⟩
  · rw [List.length_append]
    exact ho
  · exact hA.below.trans (hfr.below (fun k hk => by omega) hA.below.size)
  · rw [hp.2]
    exact hM.put (hA.own.tidy (Maps.string_keyed Try.underlying9)) x.1 hno

/-- What Arities gives. -/
def ArR (l : List Raw) (w : World) (e : Ending) (W' : World) : Prop :=
  (if (foldN l).2 = true then e = .returned (.tuple #[.map (some (w.heap.size + 2)), .int .i64 0]) ∧ ∃ N D, W'.ownsMap Try.prog 9 (plainElem (H := Unit) Try.prog 3) (w.heap.size + 2) N D ∧ MapOf D (foldN l).1
   else e = .returned (.tuple #[.map none, .int .i64 6])) ∧ Below w.heap.size w W'

set_option maxRecDepth 100000 in
set_option maxHeartbeats 8000000 in
theorem arities_in (n : Nat) (hn : 3 ≤ n) (rs : List Rul) (fs : List Raw) (vr vf : Value) (w : World) (hr : isRs w rs vr) (hf : FsB w vf fs) (hl : rs.length ≤ 1000000) (hb : ∀ q ∈ rs, q.2.length ≤ 1000000) (hok : ∀ x ∈ rawRs rs ++ fs, okP x) (hN : (rawRs rs ++ fs).length ≤ 1000000000) :
    CallsIn Fence.wide n Try.prog 9 #[vr, vf] w fun e W' => ArR (rawRs rs ++ fs) w e W' := by
  have HR := hide (RsB.of hr hl hb)
  have HF := hide hf
  obtain ⟨ar, cr, rfl⟩ := Rp.isRs_shape hr
  obtain ⟨af, cf, rfl, _⟩ := hf
  have HOK := hide hok
  have HNL : Hid ((castP (rawRs rs ++ fs)).length ≤ 1000000000) := Nat.le_trans (List.length_filterMap_le _ _) hN
  have h1 : 1 ≤ n := by omega
  have hmm := @run_makeMap Try.prog
  clear hr hok
  refine callsIn_of_wp_marks Try.func9 rfl trivial ?_ rfl
  simp only [Try.ntmps9, List.size_toArray, List.length_cons, List.length_nil, Nat.reduceAdd, Nat.reduceSub, Array.replicate_succ, Array.replicate_zero, List.push_toArray, List.append_toArray, List.nil_append, List.cons_append]
  gi_wp2
  refine ⟨trivial, ?_⟩
  refine (preds_in (n - 1) _ _ _ _ _ _ _).mono ?_
  rintro e w' ⟨rfl, rfl⟩
  clear hmm
  have hsz : ((((((w.alloc (.cells #[.map none] 33)).alloc (.cells #[.int .i64 0] 34)).alloc (.map #[] 0)).alloc (.cells #[.map (some (w.heap.size + 1 + 1))] 33)).alloc (.cells #[.slice ar rs.length cr] 24)).alloc (.cells #[.slice af fs.length cf] 22)).heap.size = w.heap.size + 6 := by simp
  have hBw : Hid (Below w.heap.size w ((((((w.alloc (.cells #[.map none] 33)).alloc (.cells #[.int .i64 0] 34)).alloc (.map #[] 0)).alloc (.cells #[.map (some (w.heap.size + 1 + 1))] 33)).alloc (.cells #[.slice ar rs.length cr] 24)).alloc (.cells #[.slice af fs.length cf] 22))) :=
    ((((((Below.refl _ w).alloc (Nat.le_refl _) _).alloc (by simp) _).alloc (by simp; omega) _).alloc (by simp; omega) _).alloc (by simp; omega) _).alloc (by simp; omega) _
  have A0 : Hid (Ar w ((((((w.alloc (.cells #[.map none] 33)).alloc (.cells #[.int .i64 0] 34)).alloc (.map #[] 0)).alloc (.cells #[.map (some (w.heap.size + 1 + 1))] 33)).alloc (.cells #[.slice ar rs.length cr] 24)).alloc (.cells #[.slice af fs.length cf] 22)) 0 (.map []) (.map none) (.int .i64 0)) := by
    refine ⟨?_, ?_, ?_, ?_, hBw.out⟩
    · exact ((((((Bx.new w #[.map none] 33).below (Lx.below_box _ _)).below (Lx.below_box _ _)).below (Lx.below_box _ _)).below (Lx.below_box _ _)).below (Lx.below_box _ _))
    · have := Bx.new (w.alloc (.cells #[.map none] 33)) #[.int .i64 0] 34
      rw [World.size_alloc] at this
      exact ((((this.below (Lx.below_box _ _)).below (Lx.below_box _ _)).below (Lx.below_box _ _)).below (Lx.below_box _ _))
    · have := Bx.new (((w.alloc (.cells #[.map none] 33)).alloc (.cells #[.int .i64 0] 34)).alloc (.map #[] 0)) #[.map (some (w.heap.size + 1 + 1))] 33
      simp only [World.size_alloc] at this
      exact ((this.below (Lx.below_box _ _)).below (Lx.below_box _ _))
    · have := World.ownsMap_made ((w.alloc (.cells #[.map none] 33)).alloc (.cells #[.int .i64 0] 34)) Try.prog 9 (plainElem (H := Unit) Try.prog 3)
      simp only [World.size_alloc] at this
      exact (((this.alloc _).alloc _).alloc _)
  have cR : ((((((w.alloc (.cells #[.map none] 33)).alloc (.cells #[.int .i64 0] 34)).alloc (.map #[] 0)).alloc (.cells #[.map (some (w.heap.size + 1 + 1))] 33)).alloc (.cells #[.slice ar rs.length cr] 24)).alloc (.cells #[.slice af fs.length cf] 22)).cell? ⟨w.heap.size + 1 + 1 + 1 + 1, 0, none⟩ = some (.slice ar rs.length cr) := by
    have := Bx.new ((((w.alloc (.cells #[.map none] 33)).alloc (.cells #[.int .i64 0] 34)).alloc (.map #[] 0)).alloc (.cells #[.map (some (w.heap.size + 1 + 1))] 33)) #[.slice ar rs.length cr] 24
    simp only [World.size_alloc] at this
    exact (this.below (Lx.below_box _ _)).c 0
  have cF : ((((((w.alloc (.cells #[.map none] 33)).alloc (.cells #[.int .i64 0] 34)).alloc (.map #[] 0)).alloc (.cells #[.map (some (w.heap.size + 1 + 1))] 33)).alloc (.cells #[.slice ar rs.length cr] 24)).alloc (.cells #[.slice af fs.length cf] 22)).cell? ⟨w.heap.size + 1 + 1 + 1 + 1 + 1, 0, none⟩ = some (.slice af fs.length cf) := by
    have := Bx.new (((((w.alloc (.cells #[.map none] 33)).alloc (.cells #[.int .i64 0] 34)).alloc (.map #[] 0)).alloc (.cells #[.map (some (w.heap.size + 1 + 1))] 33)).alloc (.cells #[.slice ar rs.length cr] 24)) #[.slice af fs.length cf] 22
    simp only [World.size_alloc] at this
    exact this.c 0
  gi_wp2
  generalize ((((((w.alloc (.cells #[.map none] 33)).alloc (.cells #[.int .i64 0] 34)).alloc (.map #[] 0)).alloc (.cells #[.map (some (w.heap.size + 1 + 1))] 33)).alloc (.cells #[.slice ar rs.length cr] 24)).alloc (.cells #[.slice af fs.length cf] 22)) = W1 at *
  refine wpIn_rangeFunc_ownG rfl h1 (gf := 31) (lb := #[.pointer (some ⟨w.heap.size + 1 + 1 + 1 + 1, 0, none⟩), .pointer (some ⟨w.heap.size + 1 + 1 + 1 + 1 + 1, 0, none⟩)]) rfl trivial (enters_of Try.func31 (by kernel_rfl) rfl)
    (preds_stops (n - 1) (by omega) _ _ _ _ rs fs HOK.out W1 cR cF (HR.out.kept (Kc.of_below hBw.out)) (HF.out.kept (Kc.of_below hBw.out))) Kc.trans (fun W l o o' _ h ho _ => Kc.put W l o o' h ho) (Below.refl _ _) (fun _ => rfl)
    (fun pre X => Hid (∃ D, Ar w X pre.length D (.map none) (.int .i64 0) ∧ MapOf D (foldN (pre.map (·.1))).1) ∧ (foldN (pre.map (·.1))).2 = true) (fun c pre X => c = .ret ∧ Hid (∃ N D, Ar w X N D (.map none) (.int .i64 6)) ∧ (foldN (pre.map (·.1))).2 = false)
    (fun s A B row hs hg hr => ⟨by obtain ⟨D, h1, h2⟩ := hs.1.out; exact ⟨D, h1.grown hg (fun r e => by have := (hr r e).1; omega), h2⟩, hs.2⟩)
    (fun c s A B row hs hg hr => ⟨hs.1, by obtain ⟨N, D, h1⟩ := hs.2.1.out; exact ⟨N, D, h1.grown hg (fun r e => by have := (hr r e).1; omega)⟩, hs.2.2⟩)
    ⟨⟨_, A0.out, MapOf.nil⟩, rfl⟩
    (fun x => { tmps := #[.slice ar rs.length cr, .slice af fs.length cf, undef, undef, .pointer (some ⟨w.heap.size, 0, none⟩), .pointer (some ⟨w.heap.size + 1, 0, none⟩), .pointer (some ⟨w.heap.size + 1 + 1 + 1, 0, none⟩), .string x.1.1, .int .i64 (x.1.2 : Int), undef, undef, .map (some (w.heap.size + 1 + 1)), .slice ar rs.length cr, .slice af fs.length cf, .func (.func 31) #[] #[.pointer (some ⟨w.heap.size + 1 + 1 + 1 + 1, 0, none⟩), .pointer (some ⟨w.heap.size + 1 + 1 + 1 + 1 + 1, 0, none⟩)], .string x.1.1, .int .i64 (x.1.2 : Int), undef, undef, undef, undef, undef, undef, undef, undef, undef, undef, undef, undef, undef, undef, undef, undef, undef, undef, undef], defers := [] }) ?assign ?body ?done ?stop
  case assign =>
    intro l' x X K hK
    have hsem := @Oper.semAt_some
    gi_wp2
    exact hK
  case body =>
    rintro l' pre x X ⟨HI, hp⟩ hlt2
    have hsem := @Oper.semAt_some
    obtain ⟨D, hA, hM⟩ := HI.out
    have HA := hide hA
    have HM := hide hM
    have HOWN := hide hA.own
    have c6 : X.cell? ⟨w.heap.size + 1 + 1 + 1, 0, none⟩ = some (.map (some (w.heap.size + 1 + 1))) := hA.c6.c 0
    have c4 := hA.c4.c 0
    have f4 := hA.c4.f 0
    have c5 := hA.c5.c 0
    have f5 := hA.c5.f 0
    have hx1 : x.1.1.size ≤ maxLen := by have := x.2.1; simp only [maxLen]; omega
    have hhas := hM.has x.1.1
    have hat' := hM.at' x.1.1
    have hXb := hA.below.size
    have hX6 := hA.c6.lt
    have HF2 : Hid (foldN ((pre ++ [x]).map (·.1)) = stepN (foldN (pre.map (·.1))) x.1) := by show _ = _; rw [List.map_append]; exact foldN_snoc _ _
    have hwh := wid_has (foldN (pre.map (·.1))).1 x.1.1
    clear HI hA hM
    cases hw : widN (foldN (pre.map (·.1))).1 x.1.1 with
    | some k =>
      rw [hw] at hat' hwh
      rw [hwh] at hhas
      have hok : okN (foldN (pre.map (·.1))).1 x.1 = (k == x.1.2) := by rw [okN, hw]
      have hadd : addN (foldN (pre.map (·.1))).1 x.1 = (foldN (pre.map (·.1))).1 := by rw [addN, if_pos (by rw [hwh]; rfl)]
      by_cases hk : k = x.1.2
      · have gk : ((k : Int) != (x.1.2 : Int)) = false := by simp; omega
        have HP2 : Hid ((foldN ((pre ++ [x]).map (·.1))).2 = true ∧ (foldN ((pre ++ [x]).map (·.1))).1 = (foldN (pre.map (·.1))).1) := by
          rw [HF2.out]
          exact ⟨by rw [stepN, hp, hok]; simp [hk], hadd⟩
        clear hk hok hadd hwh hw HF2
        gi_wp2_with (gi_at_lookup; refine wpListIn_lookup_own_ok_int _ rfl _ _ 33 rfl 9 3 .i64 (Maps.string_keyed Try.underlying9) Try.underlying33 Try.underlying3 (Try.zeroValue3 _) (w.heap.size + 1 + 1) _ D rfl HOWN.out _ _ rfl (WideMaps.keyOf_string_mk Try.underlying9 hx1) ?_; intro c hat hwc; rw [hhas]; have hc := hat'.symm.trans hat; simp at hc; subst hc; clear hat hwc)
        refine ⟨KeepsFrom.refl _ _, Kc.refl _, ⟨D, ⟨HA.out.c4, HA.out.c5, HA.out.c6, HA.out.own.mono (by simp), HA.out.below⟩, by rw [HP2.out.2]; exact HM.out⟩, HP2.out.1⟩
      · have gk : ((k : Int) != (x.1.2 : Int)) = true := by simp; omega
        have HP2 : Hid ((foldN ((pre ++ [x]).map (·.1))).2 = false) := by
          show _ = _
          rw [HF2.out, stepN, hok]
          simp [hk]
        clear hk hok hadd hwh hw HF2
        gi_wp2_with (gi_at_lookup; refine wpListIn_lookup_own_ok_int _ rfl _ _ 33 rfl 9 3 .i64 (Maps.string_keyed Try.underlying9) Try.underlying33 Try.underlying3 (Try.zeroValue3 _) (w.heap.size + 1 + 1) _ D rfl HOWN.out _ _ rfl (WideMaps.keyOf_string_mk Try.underlying9 hx1) ?_; intro c hat hwc; rw [hhas]; have hc := hat'.symm.trans hat; simp at hc; subst hc; clear hat hwc)
        refine ⟨((KeepsOthers.setCell _ _ _).trans (KeepsOthers.setCell _ _ _)).from _, rfl, ⟨_, _, HA.out.set _ _⟩, HP2.out⟩
    | none =>
      rw [hw] at hat' hwh
      rw [hwh] at hhas
      have hok : okN (foldN (pre.map (·.1))).1 x.1 = true := by rw [okN, hw]
      have hadd : addN (foldN (pre.map (·.1))).1 x.1 = (foldN (pre.map (·.1))).1 ++ [x.1] := by rw [addN, if_neg (by rw [hwh]; decide)]
      have HP2 : Hid ((foldN ((pre ++ [x]).map (·.1))).2 = true ∧ (foldN ((pre ++ [x]).map (·.1))).1 = (foldN (pre.map (·.1))).1 ++ [x.1]) := by
        rw [HF2.out]
        exact ⟨by rw [stepN, hp, hok]; rfl, hadd⟩
      have HCl : Hid (∀ W, Calls Try.prog 22 #[.string x.1.1] W fun e w' => e = .returned (.string x.1.1) ∧ Below W.heap.size W w') := fun W => clone_any x.1.1 W x.2.1
      have HNo : Hid (hasN (foldN (pre.map (·.1))).1 x.1.1 = false) := hwh
      clear hok hadd hwh hw HF2
      gi_wp2_with (gi_at_lookup; refine wpListIn_lookup_own_ok_int _ rfl _ _ 33 rfl 9 3 .i64 (Maps.string_keyed Try.underlying9) Try.underlying33 Try.underlying3 (Try.zeroValue3 _) (w.heap.size + 1 + 1) _ D rfl HOWN.out _ _ rfl (WideMaps.keyOf_string_mk Try.underlying9 hx1) ?_; intro c hat hwc; rw [hhas]; have hc := hat'.symm.trans hat; simp at hc; subst hc; clear hat hwc)
      have hN : pre.length < maxLen := by
        have := HNL.out
        simp only [maxLen]
        omega
      have hwf : (Lit.int .i64 (x.1.2 : Int)).wf = true := by
        have h1 := x.2.2
        have h2 := wrap64_wf (x.1.2 : Int)
        have h3 : wrap64 (x.1.2 : Int) = (x.1.2 : Int) := by simp only [maxLen] at h1; unfold wrap64; omega
        rw [h3] at h2
        exact h2
      have hmix : Try.prog.follows Departure.mixedOrders = true := by kernel_rfl
      gi_region_with_o (refine ⟨trivial, fun _ => by omega, ?_⟩; gi_at_call 22; refine (CallsIn.inRound l' (callsIn_wide.2 (HCl.out _))).mono ?_; rintro e w2 ⟨rfl, hb2⟩; have HA2 := hide (HA.out.below' ((Below.refl _ X).drew.trans hb2)); have c6b : w2.cell? ⟨w.heap.size + 1 + 1 + 1, 0, none⟩ = some (.map (some (w.heap.size + 1 + 1))) := HA2.out.c6.c 0; obtain ⟨w3, hrun, hown1, hgrow1⟩ := HA2.out.own.update (Maps.string_keyed Try.underlying9) Try.underlying33 hN (WideMaps.keyOf_string_mk Try.underlying9 hx1) (plainElem_int (H := Unit) Try.underlying3 hwf))
      all_goals gi_wp2
      all_goals exact Ar_end HA2.out ((Below.refl _ X).drew.trans hb2) HM.out HNo.out HP2.out hown1 hgrow1 (by omega)
  case done =>
    rintro E ys X hD rfl ⟨HI, hp⟩ hK
    obtain ⟨D, hA, hM⟩ := HI.out
    have hall : (castP (rawRs rs ++ fs)).map (·.1) = rawRs rs ++ fs := castP_all HOK.out
    rw [hall] at hp hM
    have c4 := hA.c4.c 0
    have f4 := hA.c4.f 0
    have c5 := hA.c5.c 0
    have f5 := hA.c5.f 0
    have c6 : X.cell? ⟨w.heap.size + 1 + 1 + 1, 0, none⟩ = some (.map (some (w.heap.size + 1 + 1))) := hA.c6.c 0
    have HA := hide (hA.set (.map (some (w.heap.size + 1 + 1))) (.int .i64 0))
    have HM := hide hM
    have hK2 : Hid (((X.setCell ⟨w.heap.size, 0, none⟩ (.map (some (w.heap.size + 1 + 1)))).setCell ⟨w.heap.size + 1, 0, none⟩ (.int .i64 0)).heap[E]? = some (.deferred (some []))) := ((KeepsOthers.setCell X ⟨w.heap.size, 0, none⟩ (.map (some (w.heap.size + 1 + 1)))).trans (KeepsOthers.setCell _ ⟨w.heap.size + 1, 0, none⟩ (.int .i64 0))).same E _ hK rfl
    clear HI hA hM
    gi_wp2
    refine leaves_marks [E] _ (fun e he => by rw [List.mem_singleton.1 he]; exact hK2.out) (by simp) (fun W' hW' => ?_)
    have hA := HA.out.fr hW' (fun k hk e => by have := List.mem_singleton.1 e; omega)
    have h4 := hA.c4.c 0
    have h5 := hA.c5.c 0
    refine ⟨.tuple #[.map (some (w.heap.size + 1 + 1)), .int .i64 0], by simp at h4 h5; simp [results, Try.f9, go_sem, h4, h5], ?_, hA.below⟩
    rw [if_pos hp]
    exact ⟨rfl, _, D, hA.own, HM.out⟩
  case stop =>
    rintro E c pre X hD hpre ⟨rfl, HI, hp⟩ hK
    obtain ⟨N, D, hA0⟩ := HI.out
    gi_wp2
    refine leaves_marks [E] _ (fun e he => by rw [List.mem_singleton.1 he]; exact hK) (by simp) (fun W' hW' => ?_)
    have hA := hA0.fr hW' (fun k hk e => by have := List.mem_singleton.1 e; omega)
    have h4 := hA.c4.c 0
    have h5 := hA.c5.c 0
    refine ⟨.tuple #[.map none, .int .i64 6], by simp at h4 h5; simp [results, Try.f9, go_sem, h4, h5], ?_, hA.below⟩
    obtain ⟨q, hq⟩ := hpre
    have hall : (castP (rawRs rs ++ fs)).map (·.1) = rawRs rs ++ fs := castP_all HOK.out
    have hfalse : (foldN (rawRs rs ++ fs)).2 = false := by
      rw [← hall, ← hq, List.map_append]
      exact foldN_mono _ _ hp
    rw [if_neg (by rw [hfalse]; decide)]
end Go.Proofs.Ytienpejlfjhnmaa.Ck
namespace Go.Proofs.Ytienpejlfjhnmaa.Rp
open Go.RowKit
open Lx (Wd tx cellsW wpList_append_run)
open Vl (Tm Fr)
open Sy

/-- The loop over a body's literals: what holds ahead of each round, seen from the world behind the head. -/
structure Lb (W1 : World) (r : Nat) (v : Value) (L : List Wd) (ab : Nat) (k : Int) (nm : ByteArray) (va : Value) (W : World) (a e : Nat) (yb : Value) (nb : Nat) (xb : List Value) : Prop where
  pw : Pw W1 r v L a e W
  rul : Bx W W1.heap.size 32 #[.int .i64 k, .string nm, va, yb]
  row : W.ownsRow W1.heap.size 29 3 yb nb xb
  few : nb ≤ 7
  le : a ≤ L.length + 1
  st : (e = 0 ∧ ab ≤ a ∧ a ≤ L.length ∧ nb ≤ 6 ∧ ∃ zb : List (Sy.Lit × Value), nb = zb.length ∧ xb = cellsLz zb ∧ (∀ z ∈ zb, isTs W z.1.2.2 z.2) ∧ listL litL 6 (L.drop ab) = joinR (zb.map (·.1)) (listL litL (6 - zb.length) (L.drop a))) ∨ (∃ c, e = codeN c ∧ listL litL 6 (L.drop ab) = .error c)

/-- One literal more: the append, and the store of the row into the rule. -/
theorem Lb_push {W1 : World} {r : Nat} {v : Value} {L : List Wd} {k : Int} {nm : ByteArray} {va : Value} {W : World} {a0 e0 a e : Nat} {y : Value} {n : Nat} {xs : List Value} (h0 : Pd W1 r v L a0 e0)
    (pw : Pw W1 r v L a e W) (rul : Bx W W1.heap.size 32 #[.int .i64 k, .string nm, va, y]) (row : W.ownsRow W1.heap.size 29 3 y n xs) (hn : n ≤ 6) (k' : Int) (nm' : ByteArray) (ao' : Option Addr) (m' cap' : Nat) :
    ∃ g cap w3, (∀ ty, (Builtin.append_ #[30, 30] ty #[y, .slice (some ⟨W.heap.size, 0, none⟩) 1 1]).run Try.prog (W.alloc (.cells #[.int .i64 k', .string nm', .slice ao' m' cap'] 29)) = .ok (.slice (some ⟨g, 0, none⟩) (n + 1) cap) w3) ∧
      (w3.cell? ⟨W1.heap.size, 3, none⟩ = some y ∧ w3.frozen? ⟨W1.heap.size, 3, none⟩ = false) ∧
      Hid (Pw W1 r v L a e (w3.setCell ⟨W1.heap.size, 3, none⟩ (.slice (some ⟨g, 0, none⟩) (n + 1) cap)) ∧ Bx (w3.setCell ⟨W1.heap.size, 3, none⟩ (.slice (some ⟨g, 0, none⟩) (n + 1) cap)) W1.heap.size 32 #[.int .i64 k, .string nm, va, .slice (some ⟨g, 0, none⟩) (n + 1) cap] ∧ (w3.setCell ⟨W1.heap.size, 3, none⟩ (.slice (some ⟨g, 0, none⟩) (n + 1) cap)).ownsRow W1.heap.size 29 3 (.slice (some ⟨g, 0, none⟩) (n + 1) cap) (n + 1) (xs ++ [.int .i64 k', .string nm', .slice ao' m' cap']) ∧
        (∀ ts u, isTs W ts u → isTs (w3.setCell ⟨W1.heap.size, 3, none⟩ (.slice (some ⟨g, 0, none⟩) (n + 1) cap)) ts u)) := by
  obtain ⟨g, cap, w3, hap, HO3, HF3⟩ := push_row 30 29 3 48 _ Try.underlying30 Sy.Try.info29 rfl (by decide) (by decide) row [.int .i64 k', .string nm', .slice ao' m' cap'] rfl (by simp [Value.oneCell']) (by omega) pw.fr.size
  have hrow : ∀ j, y.ownBlock = some j → W1.heap.size ≤ j := fun j hj => (row.lt j hj).1
  have hnot : ∀ {b : Nat} {T : TypeId} {cs : Array Value}, Bx W b T cs → T ≠ 29 → ¬ y.ownBlock = some b := fun {b T cs} hb hT hk => by
    rcases row.2 with ⟨rfl, _⟩ | ⟨g', cap', cur, rfl, _, hg, _⟩
    · simp [Value.ownBlock] at hk
    · simp [Value.ownBlock] at hk
      subst hk
      have := hb.symm.trans hg
      simp only [Option.some.injEq, Obj.cells.injEq] at this
      exact hT this.2.1
  have rul3 := rul.fr HF3.out (hnot rul (by decide))
  have hlt := h0.lt
  have pw3 : Pw W1 r v L a e w3 := by
    have hf : Fr (fun k => k = r) W1 w3 := pw.fr.trans HF3.out (fun x hx hFx => absurd (hrow x hFx) (by omega))
    exact ⟨⟨pw.pd.box.fr HF3.out (fun hk => by have := hrow r hk; omega), h0.kept hf h0.row (by decide), pw.pd.len, pw.pd.near⟩, hf⟩
  refine ⟨g, cap, w3, hap, ⟨rul3.c 3, rul3.f 3⟩, pw3.put h0 W1.heap.size 3 (Nat.le_refl _) _, rul3.set 3 _, own_put HO3.out rul3 (by decide) 3 _, fun ts u hu => ?_⟩
  exact isTs_put (isTs_grow hu row (by decide) HF3.out) rul3 (by decide) 3 _

/-- What Program has behind a rule's head and body, ahead of the stop. -/
structure Lt (W1 : World) (r : Nat) (v : Value) (L : List Wd) (a0 : Nat) (W : World) (a e : Nat) (k : Int) (nm : ByteArray) (aoa : Option Addr) (ma capa : Nat) (aob : Option Addr) (mb capb : Nat) : Prop where
  pw : Pw W1 r v L a e W
  rul : Bx W W1.heap.size 32 #[.int .i64 k, .string nm, .slice aoa ma capa, .slice aob mb capb]
  le : a ≤ L.length + 1
  st : (e = 0 ∧ a0 < a ∧ a ≤ L.length ∧ ∃ (ts : List Tm) (ls : List Sy.Lit), isTs W ts (.slice aoa ma capa) ∧ isLs W ls (.slice aob mb capb) ∧ clauseL (L.drop a0) = endR (k, nm, ts) ls (L.drop a)) ∨ (∃ c, e = codeN c ∧ clauseL (L.drop a0) = .error c)

/-- The loop over the rules. -/
structure Lp (w : World) (r : Nat) (v : Value) (L : List Wd) (W : World) (a e : Nat) (y : Value) (n : Nat) (xs : List Value) : Prop where
  pw : Pw w r v L a e W
  row : W.ownsRow w.heap.size 32 4 y n xs
  few : n ≤ 31
  le : a ≤ L.length + 1
  st : (e = 0 ∧ a ≤ L.length ∧ n ≤ 30 ∧ ∃ zs : List (Rul × Value × Value), n = zs.length ∧ xs = cellsRz zs ∧ (∀ z ∈ zs, isTs W z.1.1.2.2 z.2.1 ∧ isLs W z.1.2 z.2.2) ∧ progL 30 L = joinP (zs.map (·.1)) (progL (30 - zs.length) (L.drop a))) ∨ (∃ c, e = codeN c ∧ progL 30 L = .error c)

theorem Pd.isTs {w w' : World} {r : Nat} {v : Value} {L : List Wd} {a e : Nat} (h : Pd w r v L a e) (hf : Fr (fun k => k = r) w w') {ts : List Tm} {y : Value} (ht : isTs w ts y) : isTs w' ts y := h.kept hf ht (by decide)
theorem Pd.isLs {w w' : World} {r : Nat} {v : Value} {L : List Wd} {a e : Nat} (h : Pd w r v L a e) (hf : Fr (fun k => k = r) w w') {ls : List Sy.Lit} {y : Value} (ht : isLs w ls y) : isLs w' ls y := by
  obtain ⟨zs, h1, h2, h3⟩ := ht
  exact ⟨zs, h1, h.kept hf h2 (by decide), fun z hz => h.isTs hf (h3 z hz)⟩

/-- One rule more. -/
theorem Lp_push {w : World} {r : Nat} {v : Value} {L : List Wd} {W : World} {a0 e0 a e : Nat} {y : Value} {n : Nat} {xs : List Value} (h0 : Pd w r v L a0 e0)
    (pw : Pw w r v L a e W) (row : W.ownsRow w.heap.size 32 4 y n xs) (hn : n ≤ 30) (k : Int) (nm : ByteArray) (aoa : Option Addr) (ma capa : Nat) (aob : Option Addr) (mb capb : Nat) :
    ∃ g cap w3, (∀ ty, (Builtin.append_ #[24, 24] ty #[y, .slice (some ⟨W.heap.size, 0, none⟩) 1 1]).run Try.prog (W.alloc (.cells #[.int .i64 k, .string nm, .slice aoa ma capa, .slice aob mb capb] 32)) = .ok (.slice (some ⟨g, 0, none⟩) (n + 1) cap) w3) ∧
      Hid (Pw w r v L a e w3 ∧ w3.ownsRow w.heap.size 32 4 (.slice (some ⟨g, 0, none⟩) (n + 1) cap) (n + 1) (xs ++ [.int .i64 k, .string nm, .slice aoa ma capa, .slice aob mb capb]) ∧
        (∀ ts u, isTs W ts u → isTs w3 ts u) ∧ (∀ ls u, isLs W ls u → isLs w3 ls u)) := by
  obtain ⟨g, cap, w3, hap, HO3, HF3⟩ := push_row 24 32 4 72 _ Try.underlying24 Sy.Try.info32 rfl (by decide) (by decide) row [.int .i64 k, .string nm, .slice aoa ma capa, .slice aob mb capb] rfl (by simp [Value.oneCell']) (by omega) pw.fr.size
  have hrow : ∀ j, y.ownBlock = some j → w.heap.size ≤ j := fun j hj => (row.lt j hj).1
  have hlt := h0.lt
  have pw3 : Pw w r v L a e w3 := by
    have hf : Fr (fun k => k = r) w w3 := pw.fr.trans HF3.out (fun x hx hFx => absurd (hrow x hFx) (by omega))
    exact ⟨⟨pw.pd.box.fr HF3.out (fun hk => by have := hrow r hk; omega), h0.kept hf h0.row (by decide), pw.pd.len, pw.pd.near⟩, hf⟩
  exact ⟨g, cap, w3, hap, pw3, HO3.out, fun ts u hu => isTs_grow hu row (by decide) HF3.out, fun ls u hu => isLs_grow hu row (by decide) (by decide) HF3.out⟩

theorem litL_lt {L : List Wd} {a : Nat} {x : Sy.Lit} {t : List Wd} (h : litL (L.drop a) = .ok (x, t)) : a < L.length := by
  by_cases hl : a < L.length
  · exact hl
  · rw [drop_end L a (by omega)] at h
    cases h
end Go.Proofs.Ytienpejlfjhnmaa.Rp
namespace Go.Proofs.Ytienpejlfjhnmaa.Rp
open Go.RowKit
open Lx (Wd tx cellsW wpList_append_run bs scanAt frontAt Rw)
open Vl (Tm Fr)
open Sy

/-- What Scan gives, in one form. -/
theorem scan2 (s : ByteArray) (w : World) (hs : s.size ≤ 4000) :
    Calls Try.prog 24 #[.string s] w fun e w' => ∃ (v : Value) (E : Nat), e = .returned (.tuple #[v, .int .i64 (E : Int)]) ∧ Rw 84 w w' v (frontAt (bs s) 0) ∧ ((E = 0 ∧ ¬ scanAt (bs s) 0 = none) ∨ (E = 4 ∧ scanAt (bs s) 0 = none)) := by
  refine (Lx.rscan_any s w hs).mono ?_
  rintro e w' (⟨v, L, h1, rfl, hr⟩ | ⟨h1, v, rfl, hr⟩)
  · refine ⟨v, 0, rfl, ?_, Or.inl ⟨rfl, by rw [h1]; simp⟩⟩
    rw [Lx.frontAt_of_scan h1]
    exact hr
  · exact ⟨v, 4, rfl, hr, Or.inr ⟨rfl, h1⟩⟩

/-- What atom gives, in one form. -/
theorem Lr_one {R : Re Sy.Lit} {r : Nat} {v : Value} {L : List Wd} {a : Nat} {w : World} {x : Ending} {w' : World} (h : Lr R r v L a w x w') :
    ∃ (k : Int) (nm : ByteArray) (ao : Option Addr) (m cap a' e : Nat), x = .returned (.agg #[.int .i64 k, .string nm, .slice ao m cap]) ∧ Pd w' r v L a' e ∧ a' ≤ L.length + 1 ∧
      ((e = 0 ∧ a < a' ∧ a' ≤ L.length ∧ ∃ ts, isTs w' ts (.slice ao m cap) ∧ R = .ok ((k, nm, ts), L.drop a')) ∨ (∃ c, e = codeN c ∧ R = .error c)) ∧ Fr (fun k => k = r) w w' := by
  obtain ⟨h, hf⟩ := h
  cases R with
  | error c =>
    obtain ⟨y, a', rfl, ⟨k, nm, ao, m, cap, rfl⟩, hp, hl⟩ := h
    exact ⟨k, nm, ao, m, cap, a', _, rfl, hp, hl, Or.inr ⟨c, rfl, rfl⟩, hf⟩
  | ok p =>
    obtain ⟨⟨k, nm, ts⟩, rest⟩ := p
    obtain ⟨y, a', rfl, ⟨va, rfl, hts⟩, hp, hd, h1, h2⟩ := h
    obtain ⟨_, ao, cap, rfl⟩ := own_len hts
    exact ⟨k, nm, ao, ts.length, cap, a', 0, rfl, hp, by omega, Or.inl ⟨rfl, h1, h2, ts, hts, by rw [hd]⟩, hf⟩

theorem clause_err {L : List Wd} {a : Nat} {c : Bool} (h : atomL termW (L.drop a) = .error c) : clauseL (L.drop a) = .error c := by rw [clauseL_eq, h]
theorem clause_bare {L : List Wd} {a a' : Nat} {l : Sy.Lit} (hL : ∀ x ∈ L, OkW x) (h : atomL termW (L.drop a) = .ok (l, L.drop a')) (hs : signB [58, 45] (L.drop a') = false) : clauseL (L.drop a) = endR l [] (L.drop a') := by
  rw [sign_take hL a' [58, 45] (by decide) rfl] at hs
  rw [clauseL_eq, h]
  simp only []
  rw [if_neg (by rw [hs]; decide), takeR, if_neg (by rw [hs]; decide)]
theorem clause_body {L : List Wd} {a a' : Nat} {l : Sy.Lit} (hL : ∀ x ∈ L, OkW x) (h : atomL termW (L.drop a) = .ok (l, L.drop a')) (hs : signB [58, 45] (L.drop a') = true) : clauseL (L.drop a) = bodyR l (listL litL 6 (L.drop (a' + 1))) := by
  rw [sign_take hL a' [58, 45] (by decide) rfl] at hs
  rw [clauseL_eq, h]
  simp only []
  rw [if_pos hs, takeR, if_pos hs, drop_tail]

set_option maxRecDepth 10000 in
set_option maxHeartbeats 20000000 in
theorem rprogram_any (s : ByteArray) (w : World) (hs : s.size ≤ 4000) :
    Calls Try.prog 15 #[.string s] w fun e w' => Pg (progL 30 (wordsL (bs s))) w e w' := by
  have HSc := hide (scan2 s w hs)
  have hfo := front_ok _ ((bs s).drop 0) 0 (Nat.le_refl _)
  have HL : Hid (∀ x ∈ frontAt (bs s) 0, OkW x) := hfo.1
  have hlen : (frontAt (bs s) 0).length ≤ 4000 := by
    have h1 : (frontAt (bs s) 0).length ≤ ((bs s).drop 0).length := hfo.2
    rw [List.length_drop, Lx.bs_length] at h1
    omega
  have HPF := hide (prog_front (bs s) 30)
  clear hfo
  obtain ⟨R0, hR0⟩ : ∃ R0, progL 30 (wordsL (bs s)) = R0 := ⟨_, rfl⟩
  rw [hR0] at HPF ⊢
  clear hR0
  obtain ⟨L, hL⟩ : ∃ L, frontAt (bs s) 0 = L := ⟨_, rfl⟩
  rw [hL] at HSc HL hlen HPF
  clear hL
  go_enter Try.func15, Try.ntmps15
  go_wp2_with fail
  refine Calls.mono HSc.out ?_
  rintro e w1 ⟨v, E, rfl, hrw, hE⟩
  obtain ⟨ao, cap, rfl, _⟩ := hrw.slice
  have gE : ((E : Int) == 8) = false := by rcases hE with ⟨h, _⟩ | ⟨h, _⟩ <;> subst h <;> rfl
  have HE := hide hE
  have HB1 := hide hrw.below
  have hsz1 := hrw.below.size
  have hPd : Pd (w1.alloc (.cells #[.slice ao L.length cap, .int .i64 0, .int .i64 0] 70)) w1.heap.size (.slice ao L.length cap) L 0 0 :=
    ⟨Bx.new w1 _ _, Vl.own_zero (hrw.row.alloc _), by omega, by omega⟩
  have HP := hide hPd
  have HBW : Hid (Below w.heap.size w (w1.alloc (.cells #[.slice ao L.length cap, .int .i64 0, .int .i64 0] 70))) := hrw.below.alloc hsz1 _
  clear HSc hrw hE hPd
  go_wp2_with fail
  have hszW : w1.heap.size < (w1.alloc (.cells #[.slice ao L.length cap, .int .i64 0, .int .i64 0] 70)).heap.size := by simp
  generalize w1.alloc (.cells #[.slice ao L.length cap, .int .i64 0, .int .i64 0] 70) = W0 at *
  obtain ⟨r, hr⟩ : ∃ r, w1.heap.size = r := ⟨_, rfl⟩
  rw [hr] at HP hszW ⊢
  have HRr : Hid (w.heap.size ≤ r) := by rw [← hr]; exact hsz1
  clear hr HB1 hsz1
  have LO : Hid (Lp W0 r (.slice ao L.length cap) L W0 0 0 (.slice none 0 0) 0 []) :=
    ⟨Pw.refl HP.out, ⟨by simp, .inl ⟨rfl, rfl⟩⟩, by omega, by omega, Or.inl ⟨rfl, by omega, by omega, [], rfl, rfl, by simp, (joinP_nil _).symm⟩⟩
  go_loopw [7] (fun y wr => ∃ a e n xs, Hid (Lp W0 r (.slice ao L.length cap) L wr a e y n xs)) (fun _ wr => ms r L.length wr)
  case atStart => exact ⟨_, _, _, _, LO⟩
  case round =>
    obtain ⟨a, e, n, xs, HO⟩ := hrel
    clear LO
    obtain ⟨⟨c0, c1, c2⟩, f0, f1, f2⟩ := HO.out.pw.pd.box.three
    obtain ⟨_, aoy, capy, rfl⟩ := own_len HO.out.row
    rcases HO.out.st with ⟨rfl, haL, hn30, HST⟩ | ⟨c, he, hRc⟩
    · have HST := hide HST
      by_cases hlt : a < L.length
      · have hltI : (a : Int) < (L.length : Int) := by omega
        have hms : Hid (ms r L.length wr = L.length + 3 - a) := ms_ok HO.out.pw.pd
        go_wp2_with fail
        go_big_quiet (fail)
        have P6 := hide (HO.out.pw.below (Sy.below_drewN wr nq))
        have O6 := hide (Lx.own_below HO.out.row (Sy.below_drewN wr nq))
        have M6 : Hid (∃ zs : List (Rul × Value × Value), n = zs.length ∧ xs = cellsRz zs ∧ (∀ z ∈ zs, isTs (wr.drewN nq) z.1.1.2.2 z.2.1 ∧ isLs (wr.drewN nq) z.1.2 z.2.2) ∧ progL 30 L = joinP (zs.map (·.1)) (progL (30 - zs.length) (L.drop a))) := by
          obtain ⟨zs, h1, h2, h3, h4⟩ := HST.out
          exact ⟨zs, h1, h2, fun z hz => ⟨isTs_below (h3 z hz).1 (Sy.below_drewN _ _), isLs_below (h3 z hz).2 (Sy.below_drewN _ _)⟩, h4⟩
        clear HO HST c0 c1 c2 f0 f1 f2
        generalize wr.drewN nq = W6 at *
        have HT := hide (atom_any P6.out.pd HL.out haL)
        obtain ⟨R, hR⟩ : ∃ R, Hid (atomL termW (L.drop a) = R) := ⟨_, rfl⟩
        rw [hR.out] at HT
        go_wp2_with fail
        refine Calls.mono HT.out ?_
        intro z w2 hz
        obtain ⟨k, nm, aoa, ma, capa, a2, e2, rfl, hp2, hle2, hst2, hf2⟩ := Lr_one hz
        have P2 := hide (P6.out.then hp2 hf2)
        have O2 := hide (P6.out.pd.kept hf2 O6.out (by decide))
        have M2 : Hid (∃ zs : List (Rul × Value × Value), n = zs.length ∧ xs = cellsRz zs ∧ (∀ z ∈ zs, isTs w2 z.1.1.2.2 z.2.1 ∧ isLs w2 z.1.2 z.2.2) ∧ progL 30 L = joinP (zs.map (·.1)) (progL (30 - zs.length) (L.drop a))) := by
          obtain ⟨zs, h1, h2, h3, h4⟩ := M6.out
          exact ⟨zs, h1, h2, fun z hz => ⟨P6.out.pd.isTs hf2 (h3 z hz).1, P6.out.pd.isLs hf2 (h3 z hz).2⟩, h4⟩
        have H2 := hide hp2
        have HS2 := hide hst2
        have hr2 : r < w2.heap.size := hp2.lt
        clear HT hz hp2 hst2 hf2 P6 O6 M6
        have P3 := hide ((Pw.refl H2.out).alloc (.cells #[.int .i64 k, .string nm, .slice aoa ma capa, .slice none 0 0] 32))
        have B3 := hide (Bx.new w2 #[.int .i64 k, .string nm, .slice aoa ma capa, .slice none 0 0] 32)
        have HS := hide (sign_any P3.out.pd [58, 45])
        have c2 := P3.out.pd.box.three.1.2.2
        go_upto_region 8 with fail
        obtain ⟨b, hb⟩ : ∃ b, Hid (b = (signB [58, 45] (L.drop a2) && decide (e2 = 0))) := ⟨_, rfl⟩
        generalize w2.alloc (.cells #[.int .i64 k, .string nm, .slice aoa ma capa, .slice none 0 0] 32) = W3 at *
        go_cut [49] from 21 to 110 (fun s wc => s = .bool b ∧ ∃ n, wc = W3.drewN n)
        case first =>
          go_wp2_with fail
          refine Calls.mono HS.out ?_
          rintro z3 w3 ⟨rfl, n3, rfl⟩
          cases hsg : signB [58, 45] (L.drop a2)
          · go_wp2_with fail
            go_meet
            exact ⟨by rw [hb.out, hsg]; rfl, _, rfl⟩
          · by_cases he0 : e2 = 0
            · have g0 : ((e2 : Int) == 0) = true := by simp; omega
              have HB0 : Hid (b = true) := by show _ = _; rw [hb.out, hsg]; simp [he0]
              clear he0 hb
              go_wp2_with fail
              go_meet
              exact ⟨by rw [HB0.out], _, rfl⟩
            · have g0 : ((e2 : Int) == 0) = false := by simp; omega
              have HB0 : Hid (b = false) := by show _ = _; rw [hb.out, hsg]; simp [he0]
              clear he0 hb
              go_wp2_with fail
              go_meet
              exact ⟨by rw [HB0.out], _, rfl⟩
        case rest =>
          obtain ⟨rfl, n3, hw3⟩ := hcut
          have P4 : Hid (Pw w2 r (.slice ao L.length cap) L a2 e2 wc) := by rw [hw3]; exact P3.out.below (Sy.below_drewN _ n3)
          have B4 : Hid (Bx wc w2.heap.size 32 #[.int .i64 k, .string nm, .slice aoa ma capa, .slice none 0 0]) := by rw [hw3]; exact B3.out.below (Sy.below_drewN _ n3)
          clear hw3 P3 B3 HS c2
          go_upto_if 49 with fail
          go_cut [9] from 21 to 110 (fun s9 wd => ∃ a5 e5 aob mb capb, Hid (Lt w2 r (.slice ao L.length cap) L a wd a5 e5 k nm aoa ma capa aob mb capb))
          case first =>
            cases b with
            | false =>
              have LT : Hid (Lt w2 r (.slice ao L.length cap) L a wc a2 e2 k nm aoa ma capa none 0 0) := by
                refine ⟨P4.out, B4.out, hle2, ?_⟩
                rcases HS2.out with ⟨he, h1, h2, ts, hts, hR2⟩ | ⟨c, he, hR2⟩
                · refine Or.inl ⟨he, h1, h2, ts, [], H2.out.isTs P4.out.fr hts, isLs_nil _, clause_bare HL.out (hR.out.trans hR2) ?_⟩
                  have := hb.out
                  rw [he] at this
                  simpa using this.symm
                · exact Or.inr ⟨c, he, clause_err (hR.out.trans hR2)⟩
              go_wp2_with fail
              go_meet
              exact ⟨_, _, _, _, _, LT⟩
            | true =>
              obtain ⟨hsg, he0⟩ : signB [58, 45] (L.drop a2) = true ∧ e2 = 0 := by
                have := hb.out.symm
                simpa using this
              subst he0
              obtain ⟨hh1, hh2, ts, hts, hR2⟩ : a < a2 ∧ a2 ≤ L.length ∧ ∃ ts, isTs w2 ts (.slice aoa ma capa) ∧ R = .ok ((k, nm, ts), L.drop a2) := by
                rcases HS2.out with ⟨_, h1, h2, h3⟩ | ⟨c, he, _⟩
                · exact ⟨h1, h2, h3⟩
                · cases c <;> cases he
              have hl3 := sign_lt hsg
              have HCl := hide (clause_body HL.out (hR.out.trans hR2) hsg)
              have HTs := hide hts
              obtain ⟨⟨c0, c1, c2⟩, f0, f1, f2⟩ := P4.out.pd.box.three
              have hst := P4.out.pd.stepI (by omega)
              have P5 := hide (P4.out.then hst.1 hst.2)
              have B5 := hide (B4.out.fr hst.2 (by omega))
              have LB : Hid (Lb w2 r (.slice ao L.length cap) L (a2 + 1) k nm (.slice aoa ma capa) (wc.setCell ⟨r, 1, none⟩ (.int .i64 ((a2 : Int) + 1))) (a2 + 1) 0 (.slice none 0 0) 0 []) :=
                ⟨P5.out, B5.out, ⟨by simp, .inl ⟨rfl, rfl⟩⟩, by omega, by omega, Or.inl ⟨rfl, by omega, by omega, by omega, [], rfl, rfl, by simp, (joinR_nil _).symm⟩⟩
              clear hst P5 B5 P4 B4 hsg hts hR2 hb
              go_wp2_with fail
              go_loopw [] (fun wx => ∃ a' e' yb nb xb, Hid (Lb w2 r (.slice ao L.length cap) L (a2 + 1) k nm (.slice aoa ma capa) wx a' e' yb nb xb)) (fun wx => ms r L.length wx)
              case atStart => exact ⟨_, _, _, _, _, LB⟩
              case round =>
                obtain ⟨a', e', yb, nb, xb, HI⟩ := hrel
                clear LB c0 c1 c2 f0 f1 f2
                obtain ⟨⟨c0, c1, c2⟩, f0, f1, f2⟩ := HI.out.pw.pd.box.three
                obtain ⟨⟨d0, d1, d2, d3⟩, g0, g1, g2, g3⟩ := HI.out.rul.four
                obtain ⟨_, aob, capb, rfl⟩ := own_len HI.out.row
                rcases HI.out.st with ⟨rfl, hab, haL2, hn6, hzb⟩ | ⟨c, he5, hLc⟩
                · have hms2 : Hid (ms r L.length wr = L.length + 3 - a') := ms_ok HI.out.pw.pd
                  have hrb : ¬ w2.heap.size = r := by omega
                  have HT := hide (literal_any HI.out.pw.pd HL.out haL2)
                  obtain ⟨R2, hR3⟩ : ∃ R2, Hid (litL (L.drop a') = R2) := ⟨_, rfl⟩
                  rw [hR3.out] at HT
                  go_wp2_with fail
                  refine Calls.mono HT.out ?_
                  intro z6 w6 hz6
                  obtain ⟨k6, nm6, ao6, m6, cap6, a6, e6, rfl, hp6, hle6, hst6, hf6⟩ := Lr_one hz6
                  have P6 := hide (HI.out.pw.then hp6 hf6)
                  have B6 := hide (HI.out.rul.fr hf6 hrb)
                  have O6 := hide (HI.out.pw.pd.kept hf6 HI.out.row (by decide))
                  have Z6 : Hid (∃ zb : List (Sy.Lit × Value), nb = zb.length ∧ xb = cellsLz zb ∧ (∀ z ∈ zb, isTs w6 z.1.2.2 z.2) ∧ listL litL 6 (L.drop (a2 + 1)) = joinR (zb.map (·.1)) (listL litL (6 - zb.length) (L.drop a'))) := by
                    obtain ⟨zb, h1, h2, h3, h4⟩ := hzb
                    exact ⟨zb, h1, h2, fun z hz => HI.out.pw.pd.isTs hf6 (h3 z hz), h4⟩
                  have p2 := fun o => (P6.out.alloc o).pd.box.three.1.2.2
                  have l3 := fun o => (B6.out.below (Lx.below_box w6 o)).four.1.2.2.2
                  have hsz6 := P6.out.fr.size
                  clear HT hz6 hp6 hf6 HI hzb c0 c1 c2 f0 f1 f2 d0 d1 d2 d3 g0 g1 g2 g3
                  rcases hst6 with ⟨he6, h61, h62, ts6, hts6, hR4⟩ | ⟨c, he6, hR4⟩
                  · subst he6
                    have HT6 := hide hts6
                    have HR4 := hide (hR3.out.trans hR4)
                    clear hts6 hR4 hR3
                    by_cases hfull : nb = 6
                    · have gf : ((nb : Int) == 6) = true := by simp; omega
                      have HRe : Hid (listL litL 6 (L.drop (a2 + 1)) = .error true) := by
                        obtain ⟨zb, h1, h2, h3, h4⟩ := Z6.out
                        show _ = _
                        rw [h4, show 6 - zb.length = 0 by omega, listL_zero HR4.out]
                        rfl
                      have TB : Hid (Bx (w6.alloc (.cells #[.int .i64 k6, .string nm6, .slice ao6 m6 cap6] 29)) w6.heap.size 29 #[.int .i64 k6, .string nm6, .slice ao6 m6 cap6]) := Bx.new w6 _ _
                      have HB := hide (bad_any (P6.out.alloc (.cells #[.int .i64 k6, .string nm6, .slice ao6 m6 cap6] 29)).pd 8)
                      have B6' := hide (B6.out.below (Lx.below_box w6 (.cells #[.int .i64 k6, .string nm6, .slice ao6 m6 cap6] 29)))
                      have O6' := hide (O6.out.alloc (.cells #[.int .i64 k6, .string nm6, .slice ao6 m6 cap6] 29))
                      clear hfull
                      go_wp2_with fail
                      refine Calls.mono HB.out ?_
                      rintro zb wb ⟨rfl, hpb, hfb⟩
                      simp only [if_true] at hpb
                      have Pb := hide ((P6.out.alloc (.cells #[.int .i64 k6, .string nm6, .slice ao6 m6 cap6] 29)).then hpb hfb)
                      have Bb := hide (B6'.out.fr hfb hrb)
                      have Ob := hide ((P6.out.alloc (.cells #[.int .i64 k6, .string nm6, .slice ao6 m6 cap6] 29)).pd.kept hfb O6'.out (by decide))
                      obtain ⟨⟨v0, v1, v2⟩, _, _, _⟩ := (TB.out.fr hfb (by omega)).three
                      obtain ⟨g7, cap7, w7, hap, hst7, HL7⟩ := Lb_push H2.out Pb.out Bb.out Ob.out hn6 k6 nm6 ao6 m6 cap6
                      obtain ⟨s7, s8⟩ := hst7
                      have lb3 := Bb.out.four.1.2.2.2
                      clear hpb hfb HB TB Bb Ob B6' O6' l3 p2 P6 B6 O6
                      go_wp2_with (at_builtin; refine wpList_append_run _ rfl (.tmp 78) (.tmp 80) 30 30 rfl _ _ rfl rfl (hap _) ?_)
                      have HS := hide (sign_any HL7.out.1.pd [44])
                      clear hap s7 s8 lb3 v0 v1 v2
                      refine Calls.mono HS.out ?_
                      rintro z8 w8 ⟨rfl, n8, hw8⟩
                      have LB8 : Hid (Lb w2 r (.slice ao L.length cap) L (a2 + 1) k nm (.slice aoa ma capa) w8 a6 8 (.slice (some ⟨g7, 0, none⟩) (nb + 1) cap7) (nb + 1) (xb ++ [.int .i64 k6, .string nm6, .slice ao6 m6 cap6])) := by
                        rw [hw8]
                        have hb := Sy.below_drewN (w7.setCell ⟨w2.heap.size, 3, none⟩ (.slice (some ⟨g7, 0, none⟩) (nb + 1) cap7)) n8
                        exact ⟨HL7.out.1.below hb, HL7.out.2.1.below hb, Lx.own_below HL7.out.2.2.1 hb, by omega, by omega, Or.inr ⟨true, rfl, HRe.out⟩⟩
                      clear HL7 HS hw8
                      obtain ⟨⟨c0, c1, c2⟩, f0, f1, f2⟩ := LB8.out.pw.pd.box.three
                      cases hsg : signB [44] (L.drop a6)
                      · have LT : Hid (Lt w2 r (.slice ao L.length cap) L a w8 a6 8 k nm aoa ma capa (some ⟨g7, 0, none⟩) (nb + 1) cap7) := ⟨LB8.out.pw, LB8.out.rul, LB8.out.le, Or.inr ⟨true, rfl, by rw [HCl.out, HRe.out]; rfl⟩⟩
                        go_wp2_with fail
                        go_meet
                        exact ⟨_, _, _, _, _, LT⟩
                      · have hl9 := sign_lt hsg
                        have hst := LB8.out.pw.pd.stepI (by omega)
                        have LB9 : Hid (Lb w2 r (.slice ao L.length cap) L (a2 + 1) k nm (.slice aoa ma capa) (w8.setCell ⟨r, 1, none⟩ (.int .i64 (((a6 : Nat) : Int) + 1))) (a6 + 1) 8 (.slice (some ⟨g7, 0, none⟩) (nb + 1) cap7) (nb + 1) (xb ++ [.int .i64 k6, .string nm6, .slice ao6 m6 cap6])) :=
                          ⟨LB8.out.pw.then hst.1 hst.2, LB8.out.rul.fr hst.2 hrb, LB8.out.pw.pd.kept hst.2 LB8.out.row (by decide), by omega, by omega, Or.inr ⟨true, rfl, HRe.out⟩⟩
                        clear hst
                        go_wp2_with fail
                        go_roundw
                        case rel => exact ⟨_, _, _, _, _, LB9⟩
                        case measure =>
                          refine Nat.lt_of_le_of_lt (Nat.le_of_eq (ms_err LB9.out.pw.pd (by decide))) ?_
                          rw [hms2.out]
                          omega
                    · have gf : ((nb : Int) == 6) = false := by simp; omega
                      obtain ⟨g7, cap7, w7, hap, hst7, HL7⟩ := Lb_push H2.out (P6.out.alloc (.cells #[.int .i64 k6, .string nm6, .slice ao6 m6 cap6] 29)) (B6.out.below (Lx.below_box w6 _)) (O6.out.alloc _) hn6 k6 nm6 ao6 m6 cap6
                      obtain ⟨s7, s8⟩ := hst7
                      have hap' : ∀ ty, (Builtin.append_ #[30, 30] ty #[.slice aob nb capb, .slice (some ⟨w6.heap.size + 1, 0, none⟩) 1 1]).run Try.prog ((w6.alloc (.cells #[.int .i64 k6, .string nm6, .slice ao6 m6 cap6] 29)).alloc (.cells #[.int .i64 k6, .string nm6, .slice ao6 m6 cap6] 29)) = .ok (.slice (some ⟨g7, 0, none⟩) (nb + 1) cap7) w7 := fun ty => by
                        have := hap ty
                        simpa using this
                      go_wp2_with (at_builtin; refine wpList_append_run _ rfl (.tmp 78) (.tmp 80) 30 30 rfl _ _ rfl rfl (hap' _) ?_)
                      have HS := hide (sign_any HL7.out.1.pd [44])
                      clear hap hap' l3 p2 s7 s8
                      refine Calls.mono HS.out ?_
                      rintro z8 w8 ⟨rfl, n8, hw8⟩
                      obtain ⟨P8, B8, O8, Z8⟩ : Hid (Pw w2 r (.slice ao L.length cap) L a6 0 w8) ∧ Hid (Bx w8 w2.heap.size 32 #[.int .i64 k, .string nm, .slice aoa ma capa, .slice (some ⟨g7, 0, none⟩) (nb + 1) cap7]) ∧ Hid (w8.ownsRow w2.heap.size 29 3 (.slice (some ⟨g7, 0, none⟩) (nb + 1) cap7) (nb + 1) (xb ++ [.int .i64 k6, .string nm6, .slice ao6 m6 cap6])) ∧ Hid (∀ ts u, isTs w6 ts u → isTs w8 ts u) := by
                        rw [hw8]
                        have hb := Sy.below_drewN (w7.setCell ⟨w2.heap.size, 3, none⟩ (.slice (some ⟨g7, 0, none⟩) (nb + 1) cap7)) n8
                        exact ⟨HL7.out.1.below hb, HL7.out.2.1.below hb, Lx.own_below HL7.out.2.2.1 hb, fun ts u hu => isTs_below (HL7.out.2.2.2 ts u (isTs_below hu (Lx.below_box w6 _))) hb⟩
                      clear HL7 HS hw8 P6 B6 O6
                      obtain ⟨⟨c0, c1, c2⟩, f0, f1, f2⟩ := P8.out.pd.box.three
                      have HTK := hide (sign_take HL.out a6 [44] (by decide) rfl)
                      cases hsg : signB [44] (L.drop a6)
                      · rw [hsg] at HTK
                        have LT : Hid (Lt w2 r (.slice ao L.length cap) L a w8 a6 0 k nm aoa ma capa (some ⟨g7, 0, none⟩) (nb + 1) cap7) := by
                          obtain ⟨zb, h1, h2, h3, h4⟩ := Z6.out
                          refine ⟨P8.out, B8.out, by omega, Or.inl ⟨rfl, by omega, by omega, ts, (zb ++ [((k6, nm6, ts6), Value.slice ao6 m6 cap6)]).map (·.1), H2.out.isTs P8.out.fr HTs.out, ⟨_, rfl, ?_, ?_⟩, ?_⟩⟩
                          · have e1 : (zb ++ [(((k6, nm6, ts6) : Sy.Lit), Value.slice ao6 m6 cap6)]).length = nb + 1 := by simp [h1]
                            rw [e1, cellsLz_snoc, ← h2]
                            exact Vl.own_zero O8.out
                          · intro z hz
                            rcases List.mem_append.1 hz with hz | hz
                            · exact Z8.out _ _ (h3 z hz)
                            · obtain rfl : z = ((k6, nm6, ts6), Value.slice ao6 m6 cap6) := by simpa using hz
                              exact Z8.out _ _ HT6.out
                          · obtain ⟨m, hm⟩ : ∃ m, 6 - zb.length = m + 1 := ⟨6 - zb.length - 1, by omega⟩
                            rw [HCl.out, h4, hm, listL_last HR4.out HTK.out.symm, List.map_append]
                            rfl
                        go_wp2_with fail
                        go_meet
                        exact ⟨_, _, _, _, _, LT⟩
                      · rw [hsg] at HTK
                        have hl9 := sign_lt hsg
                        have hst := P8.out.pd.stepI (by omega)
                        have LB9 : Hid (Lb w2 r (.slice ao L.length cap) L (a2 + 1) k nm (.slice aoa ma capa) (w8.setCell ⟨r, 1, none⟩ (.int .i64 (((a6 : Nat) : Int) + 1))) (a6 + 1) 0 (.slice (some ⟨g7, 0, none⟩) (nb + 1) cap7) (nb + 1) (xb ++ [.int .i64 k6, .string nm6, .slice ao6 m6 cap6])) := by
                          obtain ⟨zb, h1, h2, h3, h4⟩ := Z6.out
                          refine ⟨P8.out.then hst.1 hst.2, B8.out.fr hst.2 hrb, P8.out.pd.kept hst.2 O8.out (by decide), by omega, by omega, Or.inl ⟨rfl, by omega, by omega, by omega, zb ++ [((k6, nm6, ts6), Value.slice ao6 m6 cap6)], by simp [h1], ?_, ?_, ?_⟩⟩
                          · rw [cellsLz_snoc, h2]
                          · intro z hz
                            rcases List.mem_append.1 hz with hz | hz
                            · exact P8.out.pd.isTs hst.2 (Z8.out _ _ (h3 z hz))
                            · obtain rfl : z = ((k6, nm6, ts6), Value.slice ao6 m6 cap6) := by simpa using hz
                              exact P8.out.pd.isTs hst.2 (Z8.out _ _ HT6.out)
                          · obtain ⟨m, hm⟩ : ∃ m, 6 - zb.length = m + 1 := ⟨6 - zb.length - 1, by omega⟩
                            have hm2 : 6 - (zb ++ [(((k6, nm6, ts6) : Sy.Lit), Value.slice ao6 m6 cap6)]).length = m := by simp; omega
                            rw [h4, hm, hm2, listL_more HR4.out HTK.out.symm, joinR_joinR, takeR, if_pos HTK.out.symm, drop_tail, List.map_append]
                            rfl
                        clear hst HTK
                        go_wp2_with fail
                        go_roundw
                        case rel => exact ⟨_, _, _, _, _, LB9⟩
                        case measure =>
                          refine Nat.lt_of_le_of_lt (Nat.le_of_eq (ms_ok LB9.out.pw.pd)) ?_
                          rw [hms2.out]
                          omega
                  · have he60 : ((e6 : Int) == 0) = false := by rw [he6]; cases c <;> rfl
                    have HE6 := hide he6
                    have HRe : Hid (listL litL 6 (L.drop (a2 + 1)) = .error c) := by
                      obtain ⟨zb, h1, h2, h3, h4⟩ := Z6.out
                      show _ = _
                      rw [h4, listL_err (hR3.out.trans hR4)]
                      rfl
                    obtain ⟨g7, cap7, w7, hap, hst7, HL7⟩ := Lb_push H2.out (P6.out.alloc (.cells #[.int .i64 k6, .string nm6, .slice ao6 m6 cap6] 29)) (B6.out.below (Lx.below_box w6 _)) (O6.out.alloc _) hn6 k6 nm6 ao6 m6 cap6
                    obtain ⟨s7, s8⟩ := hst7
                    have hap' : ∀ ty, (Builtin.append_ #[30, 30] ty #[.slice aob nb capb, .slice (some ⟨w6.heap.size + 1, 0, none⟩) 1 1]).run Try.prog ((w6.alloc (.cells #[.int .i64 k6, .string nm6, .slice ao6 m6 cap6] 29)).alloc (.cells #[.int .i64 k6, .string nm6, .slice ao6 m6 cap6] 29)) = .ok (.slice (some ⟨g7, 0, none⟩) (nb + 1) cap7) w7 := fun ty => by
                      have := hap ty
                      simpa using this
                    clear he6 hR4 hR3
                    go_wp2_with (at_builtin; refine wpList_append_run _ rfl (.tmp 78) (.tmp 80) 30 30 rfl _ _ rfl rfl (hap' _) ?_)
                    have HS := hide (sign_any HL7.out.1.pd [44])
                    clear hap hap' l3 p2 s7 s8 P6 B6 O6
                    refine Calls.mono HS.out ?_
                    rintro z8 w8 ⟨rfl, n8, hw8⟩
                    have LB8 : Hid (Lb w2 r (.slice ao L.length cap) L (a2 + 1) k nm (.slice aoa ma capa) w8 a6 e6 (.slice (some ⟨g7, 0, none⟩) (nb + 1) cap7) (nb + 1) (xb ++ [.int .i64 k6, .string nm6, .slice ao6 m6 cap6])) := by
                      rw [hw8]
                      have hb := Sy.below_drewN (w7.setCell ⟨w2.heap.size, 3, none⟩ (.slice (some ⟨g7, 0, none⟩) (nb + 1) cap7)) n8
                      exact ⟨HL7.out.1.below hb, HL7.out.2.1.below hb, Lx.own_below HL7.out.2.2.1 hb, by omega, by omega, Or.inr ⟨c, HE6.out, HRe.out⟩⟩
                    clear HL7 HS hw8
                    obtain ⟨⟨c0, c1, c2⟩, f0, f1, f2⟩ := LB8.out.pw.pd.box.three
                    cases hsg : signB [44] (L.drop a6)
                    · have LT : Hid (Lt w2 r (.slice ao L.length cap) L a w8 a6 e6 k nm aoa ma capa (some ⟨g7, 0, none⟩) (nb + 1) cap7) := ⟨LB8.out.pw, LB8.out.rul, LB8.out.le, Or.inr ⟨c, HE6.out, by rw [HCl.out, HRe.out]; rfl⟩⟩
                      go_wp2_with fail
                      go_meet
                      exact ⟨_, _, _, _, _, LT⟩
                    · have hl9 := sign_lt hsg
                      have hst := LB8.out.pw.pd.stepI (by omega)
                      have LB9 : Hid (Lb w2 r (.slice ao L.length cap) L (a2 + 1) k nm (.slice aoa ma capa) (w8.setCell ⟨r, 1, none⟩ (.int .i64 (((a6 : Nat) : Int) + 1))) (a6 + 1) e6 (.slice (some ⟨g7, 0, none⟩) (nb + 1) cap7) (nb + 1) (xb ++ [.int .i64 k6, .string nm6, .slice ao6 m6 cap6])) :=
                        ⟨LB8.out.pw.then hst.1 hst.2, LB8.out.rul.fr hst.2 hrb, LB8.out.pw.pd.kept hst.2 LB8.out.row (by decide), by omega, by omega, Or.inr ⟨c, HE6.out, HRe.out⟩⟩
                      clear hst
                      go_wp2_with fail
                      go_roundw
                      case rel => exact ⟨_, _, _, _, _, LB9⟩
                      case measure =>
                        refine Nat.lt_of_le_of_lt (Nat.le_of_eq (ms_err LB9.out.pw.pd (by rw [HE6.out]; cases c <;> decide))) ?_
                        rw [hms2.out]
                        omega
                · have he50 : ((e' : Int) == 0) = false := by rw [he5]; cases c <;> rfl
                  have LT : Hid (Lt w2 r (.slice ao L.length cap) L a wr a' e' k nm aoa ma capa aob nb capb) := ⟨HI.out.pw, HI.out.rul, HI.out.le, Or.inr ⟨c, he5, by rw [HCl.out, hLc]; rfl⟩⟩
                  clear hLc he5
                  go_wp2_with fail
                  go_meet
                  exact ⟨_, _, _, _, _, LT⟩
          case rest =>
            obtain ⟨a5, e5, aob, mb, capb, HLT⟩ := hcut
            have hne : Hid (L.drop a ≠ []) := by
              intro e0
              have := congrArg List.length e0
              rw [List.length_drop] at this
              simp at this
              omega
            have hrb : ¬ w2.heap.size = r := by omega
            clear P4 B4 hb HS2 hR
            rcases HLT.out.st with ⟨rfl, h51, h52, hcl⟩ | ⟨c, he5, hcl⟩
            · have HCL := hide hcl
              have HEa := hide (eat_any HLT.out.pw.pd [46] (by omega))
              clear hcl
              go_wp2_with fail
              refine Calls.mono HEa.out ?_
              rintro z9 w9 ⟨rfl, ⟨a9, hp9, ha9, hb9⟩, hf9⟩
              have F9 := hide (HLT.out.pw.fr.trans hf9 (fun _ _ e => e))
              have B9 := hide (HLT.out.rul.fr hf9 hrb)
              have O9 := hide (H2.out.kept F9.out O2.out (by decide))
              obtain ⟨⟨d0, d1, d2, d3⟩, g0, g1, g2, g3⟩ := B9.out.four
              have HTK := hide (sign_take HL.out a5 [46] (by decide) rfl)
              cases hsg : signB [46] (L.drop a5)
              · rw [hsg, if_neg (by decide)] at hp9
                rw [hsg] at HTK
                have P9 := hide (P2.out.then hp9 F9.out)
                have HRe : Hid (progL 30 L = .error false) := by
                  obtain ⟨zs, h1, h2, h3, h4⟩ := M2.out
                  obtain ⟨ts, ls, _, _, h5⟩ := HCL.out
                  rw [endR, if_neg (by rw [← HTK.out]; decide)] at h5
                  show _ = _
                  rw [h4, progL_err hne.out h5]
                  rfl
                obtain ⟨g7, cap7, w7, hap, HL7⟩ := Lp_push HP.out P9.out O9.out hn30 k nm aoa ma capa aob mb capb
                have LP : Hid (Lp W0 r (.slice ao L.length cap) L w7 a9 4 (.slice (some ⟨g7, 0, none⟩) (n + 1) cap7) (n + 1) (xs ++ [.int .i64 k, .string nm, .slice aoa ma capa, .slice aob mb capb])) :=
                  ⟨HL7.out.1, HL7.out.2.1, by omega, by omega, Or.inr ⟨false, rfl, HRe.out⟩⟩
                obtain ⟨⟨c0, c1, c2⟩, f0, f1, f2⟩ := P9.out.pd.box.three
                clear hp9 hf9 HEa HLT HL7
                go_wp2_with (at_builtin; refine wpList_append_run _ rfl (.tmp 107) (.tmp 109) 24 24 rfl _ _ rfl rfl (hap _) ?_)
                go_roundw
                case rel => exact ⟨_, _, _, _, LP⟩
                case measure =>
                  refine Nat.lt_of_le_of_lt (Nat.le_of_eq (ms_err LP.out.pw.pd (by decide))) ?_
                  rw [hms.out]
                  omega
              · rw [hsg, if_pos rfl] at hp9
                rw [hsg] at HTK
                have h9 := ha9 hsg
                subst h9
                have hl9 := sign_lt hsg
                have P9 := hide (P2.out.then hp9 F9.out)
                obtain ⟨⟨c0, c1, c2⟩, f0, f1, f2⟩ := P9.out.pd.box.three
                have HCR : Hid (∃ (ts : List Tm) (ls : List Sy.Lit), isTs w9 ts (.slice aoa ma capa) ∧ isLs w9 ls (.slice aob mb capb) ∧ clauseL (L.drop a) = .ok (((k, nm, ts), ls), L.drop (a5 + 1))) := by
                  obtain ⟨ts, ls, q1, q2, h5⟩ := HCL.out
                  refine ⟨ts, ls, HLT.out.pw.pd.isTs hf9 q1, HLT.out.pw.pd.isLs hf9 q2, ?_⟩
                  rw [h5, endR, if_pos HTK.out.symm, takeR, if_pos HTK.out.symm, drop_tail]
                clear hp9 hf9 HEa HLT HCL HTK
                by_cases hfull : n = 30
                · have gf : ((n : Int) == 30) = true := by simp; omega
                  have HRe : Hid (progL 30 L = .error true) := by
                    obtain ⟨zs, h1, h2, h3, h4⟩ := M2.out
                    obtain ⟨ts, ls, _, _, h5⟩ := HCR.out
                    show _ = _
                    rw [h4, show 30 - zs.length = 0 by omega, progL_zero hne.out h5]
                    rfl
                  have HB := hide (bad_any P9.out.pd 8)
                  clear hfull
                  go_wp2_with fail
                  refine Calls.mono HB.out ?_
                  rintro zb wb ⟨rfl, hpb, hfb⟩
                  simp only [if_true] at hpb
                  have Pb := hide (P9.out.then hpb hfb)
                  have Ob := hide (P9.out.pd.kept hfb O9.out (by decide))
                  have Bb := hide (B9.out.fr hfb hrb)
                  clear c0 c1 c2 f0 f1 f2 d0 d1 d2 d3 g0 g1 g2 g3 hpb hfb HB
                  obtain ⟨⟨d0, d1, d2, d3⟩, g0, g1, g2, g3⟩ := Bb.out.four
                  obtain ⟨g7, cap7, w7, hap, HL7⟩ := Lp_push HP.out Pb.out Ob.out hn30 k nm aoa ma capa aob mb capb
                  have LP : Hid (Lp W0 r (.slice ao L.length cap) L w7 (a5 + 1) 8 (.slice (some ⟨g7, 0, none⟩) (n + 1) cap7) (n + 1) (xs ++ [.int .i64 k, .string nm, .slice aoa ma capa, .slice aob mb capb])) :=
                    ⟨HL7.out.1, HL7.out.2.1, by omega, by omega, Or.inr ⟨true, rfl, HRe.out⟩⟩
                  clear HL7
                  go_wp2_with (at_builtin; refine wpList_append_run _ rfl (.tmp 107) (.tmp 109) 24 24 rfl _ _ rfl rfl (hap _) ?_)
                  go_roundw
                  case rel => exact ⟨_, _, _, _, LP⟩
                  case measure =>
                    refine Nat.lt_of_le_of_lt (Nat.le_of_eq (ms_err LP.out.pw.pd (by decide))) ?_
                    rw [hms.out]
                    omega
                · have gf : ((n : Int) == 30) = false := by simp; omega
                  obtain ⟨g7, cap7, w7, hap, HL7⟩ := Lp_push HP.out P9.out O9.out hn30 k nm aoa ma capa aob mb capb
                  have LP : Hid (Lp W0 r (.slice ao L.length cap) L w7 (a5 + 1) 0 (.slice (some ⟨g7, 0, none⟩) (n + 1) cap7) (n + 1) (xs ++ [.int .i64 k, .string nm, .slice aoa ma capa, .slice aob mb capb])) := by
                    obtain ⟨zs, h1, h2, h3, h4⟩ := M2.out
                    obtain ⟨ts, ls, q1, q2, h5⟩ := HCR.out
                    refine ⟨HL7.out.1, HL7.out.2.1, by omega, by omega, Or.inl ⟨rfl, by omega, by omega, zs ++ [(((k, nm, ts), ls), .slice aoa ma capa, .slice aob mb capb)], by simp [h1], ?_, ?_, ?_⟩⟩
                    · rw [cellsRz_snoc, h2]
                    · intro z hz
                      rcases List.mem_append.1 hz with hz | hz
                      · exact ⟨HL7.out.2.2.1 _ _ (H2.out.isTs F9.out (h3 z hz).1), HL7.out.2.2.2 _ _ (H2.out.isLs F9.out (h3 z hz).2)⟩
                      · obtain rfl : z = (((k, nm, ts), ls), .slice aoa ma capa, .slice aob mb capb) := by simpa using hz
                        exact ⟨HL7.out.2.2.1 _ _ q1, HL7.out.2.2.2 _ _ q2⟩
                    · obtain ⟨m, hm⟩ : ∃ m, 30 - zs.length = m + 1 := ⟨30 - zs.length - 1, by omega⟩
                      have hm2 : 30 - (zs ++ [((((k, nm, ts), ls) : Rul), Value.slice aoa ma capa, Value.slice aob mb capb)]).length = m := by simp; omega
                      rw [h4, hm, hm2, progL_more hne.out h5, joinP_joinP, List.map_append]
                      rfl
                  clear HL7 hfull
                  go_wp2_with (at_builtin; refine wpList_append_run _ rfl (.tmp 107) (.tmp 109) 24 24 rfl _ _ rfl rfl (hap _) ?_)
                  go_roundw
                  case rel => exact ⟨_, _, _, _, LP⟩
                  case measure =>
                    refine Nat.lt_of_le_of_lt (Nat.le_of_eq (ms_ok LP.out.pw.pd)) ?_
                    rw [hms.out]
                    omega
            · have HEa := hide (eat_err HLT.out.pw.pd (by rw [he5]; cases c <;> decide) [46])
              have he50 : ((e5 : Int) == 0) = false := by rw [he5]; cases c <;> rfl
              have HE5 := hide he5
              have HCL := hide hcl
              clear hcl he5
              go_wp2_with fail
              refine Calls.mono HEa.out ?_
              rintro z9 w9 ⟨rfl, hw9⟩
              have hw9' := hw9.symm
              subst hw9'
              clear hw9 HEa
              have P9 := hide (P2.out.then HLT.out.pw.pd HLT.out.pw.fr)
              have O9 := hide (H2.out.kept HLT.out.pw.fr O2.out (by decide))
              obtain ⟨⟨d0, d1, d2, d3⟩, g0, g1, g2, g3⟩ := HLT.out.rul.four
              obtain ⟨⟨c0, c1, c2⟩, f0, f1, f2⟩ := P9.out.pd.box.three
              have HRe : Hid (progL 30 L = .error c) := by
                obtain ⟨zs, h1, h2, h3, h4⟩ := M2.out
                show _ = _
                rw [h4, progL_err hne.out HCL.out]
                rfl
              obtain ⟨g7, cap7, w7, hap, HL7⟩ := Lp_push HP.out P9.out O9.out hn30 k nm aoa ma capa aob mb capb
              have LP : Hid (Lp W0 r (.slice ao L.length cap) L w7 a5 e5 (.slice (some ⟨g7, 0, none⟩) (n + 1) cap7) (n + 1) (xs ++ [.int .i64 k, .string nm, .slice aoa ma capa, .slice aob mb capb])) :=
                ⟨HL7.out.1, HL7.out.2.1, by omega, HLT.out.le, Or.inr ⟨c, HE5.out, HRe.out⟩⟩
              clear HL7 HLT
              go_wp2_with (at_builtin; refine wpList_append_run _ rfl (.tmp 107) (.tmp 109) 24 24 rfl _ _ rfl rfl (hap _) ?_)
              go_roundw
              case rel => exact ⟨_, _, _, _, LP⟩
              case measure =>
                refine Nat.lt_of_le_of_lt (Nat.le_of_eq (ms_err LP.out.pw.pd (by rw [HE5.out]; cases c <;> decide))) ?_
                rw [hms.out]
                omega
      · have hltI : decide ((a : Int) < (L.length : Int)) = false := by simp; omega
        go_wp2_with fail
        go_big_quiet (fail)
        have P6 := hide (HO.out.pw.below (Sy.below_drewN wr nq))
        have O6 := hide (Lx.own_below HO.out.row (Sy.below_drewN wr nq))
        have M6 : Hid (∃ zs : List (Rul × Value × Value), n = zs.length ∧ xs = cellsRz zs ∧ (∀ z ∈ zs, isTs (wr.drewN nq) z.1.1.2.2 z.2.1 ∧ isLs (wr.drewN nq) z.1.2 z.2.2) ∧ progL 30 L = .ok (zs.map (·.1))) := by
          obtain ⟨zs, h1, h2, h3, h4⟩ := HST.out
          refine ⟨zs, h1, h2, fun z hz => ⟨isTs_below (h3 z hz).1 (Sy.below_drewN _ _), isLs_below (h3 z hz).2 (Sy.below_drewN _ _)⟩, ?_⟩
          rw [h4, drop_end L a (by omega), progL_nil]
          show Except.ok _ = _
          simp
        clear HO HST c0 c1 c2 f0 f1 f2
        generalize wr.drewN nq = W6 at *
        have HBd := hide (bad_any P6.out.pd E)
        go_wp2_with fail
        refine Calls.mono HBd.out ?_
        rintro z7 w7 ⟨rfl, hp7, hf7⟩
        simp only [if_true] at hp7
        have P7 := hide (P6.out.then hp7 hf7)
        have O7 := hide (P6.out.pd.kept hf7 O6.out (by decide))
        have M7 : Hid (∃ zs : List (Rul × Value × Value), n = zs.length ∧ xs = cellsRz zs ∧ (∀ z ∈ zs, isTs w7 z.1.1.2.2 z.2.1 ∧ isLs w7 z.1.2 z.2.2) ∧ progL 30 L = .ok (zs.map (·.1))) := by
          obtain ⟨zs, h1, h2, h3, h4⟩ := M6.out
          exact ⟨zs, h1, h2, fun z hz => ⟨P6.out.pd.isTs hf7 (h3 z hz).1, P6.out.pd.isLs hf7 (h3 z hz).2⟩, h4⟩
        clear HBd hp7 hf7 P6 O6 M6
        obtain ⟨⟨c0, c1, c2⟩, f0, f1, f2⟩ := P7.out.pd.box.three
        have hF : Hid (Below w.heap.size w w7) := HBW.out.trans (P7.out.fr.below (fun k hk => by rw [hk]; exact HRr.out) (by have := HRr.out; omega))
        have hF2 : Hid (w.heap.size ≤ w7.heap.size) := Nat.le_trans (by have := HRr.out; omega) P7.out.fr.size
        rcases HE.out with ⟨hE0, hne⟩ | ⟨hE4, hno⟩
        · subst hE0
          go_wp2_with fail
          go_ret2
          obtain ⟨zs, h1, h2, h3, h4⟩ := M7.out
          rw [HPF.out, if_neg hne, h4]
          refine ⟨⟨_, rfl, zs, rfl, ?_, h3⟩, hF.out⟩
          rw [← h1, ← h2]
          exact Vl.own_zero O7.out
        · subst hE4
          go_wp2_with fail
          go_big_quiet (fail)
          go_wp2_with fail
          go_ret2
          obtain ⟨zs, h1, h2, h3, h4⟩ := M7.out
          rw [HPF.out, if_pos hno, h4]
          exact ⟨rfl, hF.out.trans ((Sy.below_drewN w7 _).mono hF2.out)⟩
    · have he0 : ((e : Int) == 0) = false := by rw [he]; cases c <;> rfl
      have HRc := hide hRc
      have HEc := hide he
      clear hRc he
      go_wp2_with fail
      go_big_quiet (fail)
      have P6 := hide (HO.out.pw.below (Sy.below_drewN wr nq))
      clear HO c0 c1 c2 f0 f1 f2
      generalize wr.drewN nq = W6 at *
      have HBd := hide (bad_any P6.out.pd E)
      go_wp2_with fail
      refine Calls.mono HBd.out ?_
      rintro z7 w7 ⟨rfl, hp7, hf7⟩
      rw [if_neg (by rw [HEc.out]; cases c <;> decide)] at hp7
      have P7 := hide (P6.out.then hp7 hf7)
      clear HBd hp7 hf7 P6
      obtain ⟨⟨c0, c1, c2⟩, f0, f1, f2⟩ := P7.out.pd.box.three
      have he1 : ((e : Int) != 0) = true := by rw [HEc.out]; cases c <;> rfl
      go_wp2_with fail
      go_big_quiet (fail)
      go_wp2_with fail
      go_ret2
      have hR : R0 = .error c := by
        rw [HPF.out, HRc.out]
        split <;> rfl
      rw [hR]
      refine ⟨by rw [HEc.out]; cases c <;> rfl, ?_⟩
      have hF : Below w.heap.size W0 w7 := P7.out.fr.below (fun k hk => by rw [hk]; exact HRr.out) (by have := HRr.out; omega)
      exact (HBW.out.trans hF).trans ((Sy.below_drewN w7 _).mono (Nat.le_trans (by have := HRr.out; omega) P7.out.fr.size))
end Go.Proofs.Ytienpejlfjhnmaa.Rp

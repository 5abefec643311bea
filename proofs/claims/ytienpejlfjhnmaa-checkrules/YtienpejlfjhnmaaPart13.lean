/- strings.Clone: the library's contract, laid at this program's own numbers. The walk of Arities. The walk of allIn. The walks of needsBound and Safe. -/
import Derived.Test.YtienpejlfjhnmaaRows
import Derived.Shelf.Strconv.Clone
import Derived.WalkKit
import Derived.Test.YtienpejlfjhnmaaPart12
import Derived.Lib.QuietBelow
namespace Go.Proofs.Ytienpejlfjhnmaa
def Try.laysM316_ren : Go.Shelf.Ren := ⟨fun | 316 => 33 | n => n, fun | 9 => 9 | 3 => 3 | 4 => 4 | 37 => 47 | 0 => 0 | 127 => 87 | 5 => 5 | n => n, fun | n => n⟩
theorem Try.laysM316 : Go.Proofs.LaysM.n316 Try.prog Try.laysM316_ren := {
  mixed := by kernel_rfl
  f316 := Try.func33.trans (congrArg some (by kernel_rfl))
  t0 := Try.underlying0
  a0 := Try.isAgg0
  z0 := Try.sizeOf0
  v0 := Try.zeroValue0
  t3 := Try.underlying3
  a3 := Try.isAgg3
  z3 := Try.sizeOf3
  v3 := Try.zeroValue3
  t4 := Try.underlying4
  a4 := Try.isAgg4
  z4 := Try.sizeOf4
  v4 := Try.zeroValue4
  t9 := Try.underlying9
  a9 := Try.isAgg9
  z9 := Try.sizeOf9
  v9 := Try.zeroValue9
  t37 := Try.underlying47
  a37 := Try.isAgg47
  z37 := Try.sizeOf47
  v37 := Try.zeroValue47
  t127 := Try.underlying87
  a127 := Try.isAgg87
  z127 := Try.sizeOf87
  v127 := Try.zeroValue87
  t5 := Try.underlying5
  a5 := Try.isAgg5
  z5 := Try.sizeOf5
  v5 := Try.zeroValue5
  i0 := by kernel_rfl
  i3 := by kernel_rfl
  i4 := by kernel_rfl
  i5 := by kernel_rfl
  i9 := by kernel_rfl
  i37 := by kernel_rfl
  i127 := by kernel_rfl }
open Go.RowKit in
theorem Try.stringslite_Clone (s : ByteArray) (w : World) (hlim : s.size ≤ 281474976710656) :
    Calls Try.prog 33 #[.string s] w fun e w' => e = .returned (.string s) ∧ Below w.heap.size w w' := Any.stringslite_Clone Try.laysM316 s w hlim

open Go.RowKit in
theorem clone_any (s : ByteArray) (w : World) (hs : s.size ≤ 281474976710656) : Calls Try.prog 22 #[.string s] w fun e w' => e = .returned (.string s) ∧ Below w.heap.size w w' := by
  go_enter Try.func22, Try.ntmps22
  go_wp2_with (go_at_call 33; refine (Try.stringslite_Clone s _ hs).mono ?_; rintro e w' ⟨rfl, hb⟩)
  go_ret
  exact ⟨rfl, hb⟩
end Go.Proofs.Ytienpejlfjhnmaa
namespace Go.Proofs.Ytienpejlfjhnmaa.Ck
open Go.RowKit Go.Shelf
open Vl (Tm Ts Fr)
open Sy

def hasN (m : List Raw) (s : ByteArray) : Bool := m.any fun y => y.1.data.toList == s.data.toList
def widN (m : List Raw) (s : ByteArray) : Option Nat := (m.find? fun y => y.1.data.toList == s.data.toList).map (·.2)
def addN (m : List Raw) (x : Raw) : List Raw := if hasN m x.1 = true then m else m ++ [x]
def okN (m : List Raw) (x : Raw) : Bool := match widN m x.1 with
  | some k => k == x.2
  | none => true
def stepN (st : List Raw × Bool) (x : Raw) : List Raw × Bool := (addN st.1 x, st.2 && okN st.1 x)
/-- The predicates of places, in the order in which they stand first, and whether each has one width. -/
def foldN (l : List Raw) : List Raw × Bool := l.foldl stepN ([], true)
theorem foldN_snoc (l : List Raw) (x : Raw) : foldN (l ++ [x]) = stepN (foldN l) x := by simp [foldN]
theorem foldN_mono (l r : List Raw) (h : (foldN l).2 = false) : (foldN (l ++ r)).2 = false := by
  have key : ∀ (r : List Raw) (st : List Raw × Bool), st.2 = false → (r.foldl stepN st).2 = false := fun r => by
    induction r with
    | nil => exact fun st h => h
    | cons x r ih => exact fun st h => ih _ (by simp [stepN, h])
  rw [foldN, List.foldl_append]
  exact key r _ h
theorem wid_has (m : List Raw) (s : ByteArray) : hasN m s = (widN m s).isSome := by
  unfold hasN widN
  rw [Option.isSome_map]
  induction m with
  | nil => rfl
  | cons y m ih =>
    rw [List.any_cons, List.find?_cons]
    cases hq : (y.1.data.toList == s.data.toList) with
    | true => rfl
    | false => rw [Bool.false_or, ih]

/-- A map from names to widths, as it is read. -/
structure MapOf (D : DataW Unit) (m : List Raw) : Prop where
  is : Maps.IsMap D
  size : Maps.size D = m.length
  has : ∀ s : ByteArray, Maps.has D (.string s.data.toList) = hasN m s
  at' : ∀ s : ByteArray, D.atKey (.string s.data.toList) (.lit (.int .i64 0)) = .lit (.int .i64 (((widN m s).getD 0 : Nat) : Int))
theorem MapOf.nil : MapOf (.map []) [] := ⟨⟨[], rfl⟩, rfl, fun _ => rfl, fun _ => rfl⟩
theorem MapOf.put {D : DataW Unit} {m : List Raw} (h : MapOf D m) (ht : Maps.Tidy D) (x : Raw) (hx : hasN m x.1 = false) : MapOf (D.put (.string x.1.data.toList) (.lit (.int .i64 (x.2 : Int)))) (m ++ [x]) := by
  have hm : Maps.IsMap (D.put (.string x.1.data.toList) (.lit (.int .i64 (x.2 : Int)))) := by
    obtain ⟨es, rfl⟩ := h.is
    exact ⟨_, rfl⟩
  have hw : widN m x.1 = none := by
    have := wid_has m x.1
    rw [hx] at this
    cases hq : widN m x.1 with
    | none => rfl
    | some k => rw [hq] at this; cases this
  refine ⟨hm, ?_, fun s => ?_, fun s => ?_⟩
  · rw [Maps.size_put ht, h.has, hx, h.size]
    simp
  · by_cases hs : s.data.toList = x.1.data.toList
    · rw [hs, Maps.has_put_same h.is key_str]
      unfold hasN
      rw [List.any_append, hs]
      simp
    · have hne : (x.1.data.toList == s.data.toList) = false := by rw [beq_eq_false_iff_ne]; exact fun e => hs e.symm
      rw [Maps.has_put_other (fun e => hs (by simpa using e)), h.has]
      unfold hasN
      rw [List.any_append, List.any_cons, List.any_nil, hne]
      simp
  · by_cases hs : s.data.toList = x.1.data.toList
    · have e1 : widN (m ++ [x]) s = some x.2 := by
        have hw' : (m.find? fun y => y.1.data.toList == s.data.toList) = none := by
          unfold widN at hw
          rw [hs]
          simpa using hw
        unfold widN
        rw [List.find?_append, hw', hs]
        simp
      rw [hs, Maps.atKey_put_same h.is key_str, e1]
      rfl
    · have hne : (x.1.data.toList == s.data.toList) = false := by rw [beq_eq_false_iff_ne]; exact fun e => hs e.symm
      rw [Maps.atKey_put_other (fun e => hs (by simpa using e)), h.at']
      unfold widN
      rw [List.find?_append, List.find?_cons, hne]
      simp

/-- What Arities has in memory. -/
structure Ar (w X : World) (N : Nat) (D : DataW Unit) (r4 r5 : Value) : Prop where
  c4 : Bx X w.heap.size 33 #[r4]
  c5 : Bx X (w.heap.size + 1) 34 #[r5]
  c6 : Bx X (w.heap.size + 3) 33 #[.map (some (w.heap.size + 2))]
  own : X.ownsMap Try.prog 9 (plainElem (H := Unit) Try.prog 3) (w.heap.size + 2) N D
  below : Below w.heap.size w X
theorem Ar.fr {w X X' : World} {N : Nat} {D : DataW Unit} {r4 r5 : Value} (h : Ar w X N D r4 r5) {F : Nat → Prop} (hf : Fr F X X') (hF : ∀ k, k < w.heap.size + 4 → F k → False) : Ar w X' N D r4 r5 :=
  ⟨h.c4.fr hf (hF _ (by omega)), h.c5.fr hf (hF _ (by omega)), h.c6.fr hf (hF _ (by omega)), ownsMap_fr h.own hf (hF _ (by omega)), h.below.trans (hf.below (fun k hk => by
    by_cases hl : k < w.heap.size
    · exact (hF k (by omega) hk).elim
    · omega) h.below.size)⟩
theorem Ar.grown {w A B : World} {N : Nat} {D : DataW Unit} {r4 r5 : Value} (h : Ar w A N D r4 r5) {row : Option Nat} (hg : A.grownBy B row) (hr : ∀ r, row = some r → w.heap.size + 4 ≤ r) : Ar w B N D r4 r5 :=
  h.fr (F := fun k => row = some k) (Vl.Fr.of_grown hg (fun k e => e)) (fun k hk e => by have := hr k e; omega)
theorem Ar.below' {w X X' : World} {N : Nat} {D : DataW Unit} {r4 r5 : Value} (h : Ar w X N D r4 r5) (hb : Below X.heap.size X X') : Ar w X' N D r4 r5 := h.fr (F := fun _ => False) (Fr.of_below hb) (fun _ _ e => e)
theorem Ar.set {w X : World} {N : Nat} {D : DataW Unit} {r4 r5 : Value} (h : Ar w X N D r4 r5) (s4 s5 : Value) : Ar w ((X.setCell ⟨w.heap.size, 0, none⟩ s4).setCell ⟨w.heap.size + 1, 0, none⟩ s5) N D s4 s5 := by
  have hf : Fr (fun k => k = w.heap.size) X (X.setCell ⟨w.heap.size, 0, none⟩ s4) := Vl.Fr.one X _ 0 _
  have hf2 : Fr (fun k => k = w.heap.size + 1) (X.setCell ⟨w.heap.size, 0, none⟩ s4) ((X.setCell ⟨w.heap.size, 0, none⟩ s4).setCell ⟨w.heap.size + 1, 0, none⟩ s5) := Vl.Fr.one _ _ 0 _
  exact ⟨(h.c4.set 0 s4).fr hf2 (by omega), (h.c5.fr hf (by omega)).set 0 s5, (h.c6.fr hf (by omega)).fr hf2 (by omega), ownsMap_fr (ownsMap_fr h.own hf (by omega)) hf2 (by omega),
    (h.below.setCell (p := ⟨w.heap.size, 0, none⟩) (Nat.le_refl _) _).setCell (p := ⟨w.heap.size + 1, 0, none⟩) (by show w.heap.size ≤ w.heap.size + 1; omega) _⟩

theorem castP_all {l : List Raw} (h : ∀ x ∈ l, okP x) : (castP l).map (·.1) = l := by
  induction l with
  | nil => rfl
  | cons x l ih =>
    have hx : mkP x = some ⟨x, h x (by simp)⟩ := by simp [mkP, h x (by simp)]
    have h2 := ih (fun y hy => h y (by simp [hy]))
    unfold castP at h2 ⊢
    rw [List.filterMap_cons, hx]
    simp only [List.map_cons, h2]
/-- Behind a round that has laid a new name into the map. -/
theorem Ar_end {w X w2 w3 W1 : World} {pre : List Pr} {x : Pr} {D : DataW Unit} (hA : Ar w w2 pre.length D (.map none) (.int .i64 0)) (hb : Below X.heap.size X w2) (hM : MapOf D (foldN (pre.map (·.1))).1) (hno : hasN (foldN (pre.map (·.1))).1 x.1.1 = false)
    (hp : (foldN ((pre ++ [x]).map (·.1))).2 = true ∧ (foldN ((pre ++ [x]).map (·.1))).1 = (foldN (pre.map (·.1))).1 ++ [x.1])
    (ho : w3.ownsMap Try.prog 9 (plainElem (H := Unit) Try.prog 3) (w.heap.size + 1 + 1) (pre.length + 1) (D.put (.string x.1.1.data.toList) (.lit (.int .i64 (x.1.2 : Int))))) (hg : w2.grownBy w3 (some (w.heap.size + 1 + 1))) (hz : w.heap.size + 2 < W1.heap.size) :
    KeepsFrom W1.heap.size X w3 ∧ Kc X w3 ∧ (Hid (∃ D, Ar w w3 (pre ++ [x]).length D (.map none) (.int .i64 0) ∧ MapOf D (foldN ((pre ++ [x]).map (·.1))).1)) ∧ (foldN ((pre ++ [x]).map (·.1))).2 = true := by
  have hfr : Fr (fun k => k = w.heap.size + 2) w2 w3 := Vl.Fr.of_grown hg (fun k e => by cases e; rfl)
  refine ⟨KeepsFrom.trans ⟨hb.size, fun k o _ hk _ => (hb.block k (Array.getElem?_eq_some_iff.1 hk).1).trans hk⟩ (KeepsFrom.of_grownBy hg (fun j e => by cases e; exact hz)), (Kc.of_below hb).trans (Kc.grown hg (fun r e => ?_)), ⟨D.put (.string x.1.1.data.toList) (.lit (.int .i64 (x.1.2 : Int))), ⟨hA.c4.fr hfr (by omega), hA.c5.fr hfr (by omega), hA.c6.fr hfr (by omega), ?_, ?_⟩, ?_⟩, hp.1⟩
  · cases e
    obtain ⟨es, ck, hh, _⟩ := hA.own
    exact ⟨_, hh, rfl⟩
  · rw [List.length_append]
    exact ho
  · exact hA.below.trans (hfr.below (fun k hk => by omega) hA.below.size)
  · rw [hp.2]
    exact hM.put (hA.own.tidy (Maps.string_keyed Try.underlying9)) x.1 hno

/-- What Arities gives. -/
def ArR (l : List Raw) (w : World) (e : Ending) (W' : World) : Prop :=
  (if (foldN l).2 = true then e = .returned (.tuple #[.map (some (w.heap.size + 2)), .int .i64 0]) ∧ ∃ N D, W'.ownsMap Try.prog 9 (plainElem (H := Unit) Try.prog 3) (w.heap.size + 2) N D ∧ MapOf D (foldN l).1
   else e = .returned (.tuple #[.map none, .int .i64 6])) ∧ Below w.heap.size w W'

set_option maxRecDepth 100000 in
set_option maxHeartbeats 8000000 in
theorem arities_in (n : Nat) (hn : 3 ≤ n) (rs : List Rul) (fs : List Raw) (vr vf : Value) (w : World) (hr : isRs w rs vr) (hf : FsB w vf fs) (hl : rs.length ≤ 1000000) (hb : ∀ q ∈ rs, q.2.length ≤ 1000000) (hok : ∀ x ∈ rawRs rs ++ fs, okP x) (hN : (rawRs rs ++ fs).length ≤ 1000000000) :
    CallsIn Fence.wide n Try.prog 9 #[vr, vf] w fun e W' => ArR (rawRs rs ++ fs) w e W' := by
  have HR := hide (RsB.of hr hl hb)
  have HF := hide hf
  obtain ⟨ar, cr, rfl⟩ := Rp.isRs_shape hr
  obtain ⟨af, cf, rfl, _⟩ := hf
  have HOK := hide hok
  have HNL : Hid ((castP (rawRs rs ++ fs)).length ≤ 1000000000) := Nat.le_trans (List.length_filterMap_le _ _) hN
  have h1 : 1 ≤ n := by omega
  have hmm := @run_makeMap Try.prog
  clear hr hok
  refine callsIn_of_wp_marks Try.func9 rfl trivial ?_ rfl
  simp only [Try.ntmps9, List.size_toArray, List.length_cons, List.length_nil, Nat.reduceAdd, Nat.reduceSub, Array.replicate_succ, Array.replicate_zero, List.push_toArray, List.append_toArray, List.nil_append, List.cons_append]
  gi_wp2
  refine ⟨trivial, ?_⟩
  refine (preds_in (n - 1) _ _ _ _ _ _ _).mono ?_
  rintro e w' ⟨rfl, rfl⟩
  clear hmm
  have hsz : ((((((w.alloc (.cells #[.map none] 33)).alloc (.cells #[.int .i64 0] 34)).alloc (.map #[] 0)).alloc (.cells #[.map (some (w.heap.size + 1 + 1))] 33)).alloc (.cells #[.slice ar rs.length cr] 24)).alloc (.cells #[.slice af fs.length cf] 22)).heap.size = w.heap.size + 6 := by simp
  have hBw : Hid (Below w.heap.size w ((((((w.alloc (.cells #[.map none] 33)).alloc (.cells #[.int .i64 0] 34)).alloc (.map #[] 0)).alloc (.cells #[.map (some (w.heap.size + 1 + 1))] 33)).alloc (.cells #[.slice ar rs.length cr] 24)).alloc (.cells #[.slice af fs.length cf] 22))) :=
    ((((((Below.refl _ w).alloc (Nat.le_refl _) _).alloc (by simp) _).alloc (by simp; omega) _).alloc (by simp; omega) _).alloc (by simp; omega) _).alloc (by simp; omega) _
  have A0 : Hid (Ar w ((((((w.alloc (.cells #[.map none] 33)).alloc (.cells #[.int .i64 0] 34)).alloc (.map #[] 0)).alloc (.cells #[.map (some (w.heap.size + 1 + 1))] 33)).alloc (.cells #[.slice ar rs.length cr] 24)).alloc (.cells #[.slice af fs.length cf] 22)) 0 (.map []) (.map none) (.int .i64 0)) := by
    refine ⟨?_, ?_, ?_, ?_, hBw.out⟩
    · exact ((((((Bx.new w #[.map none] 33).below (Lx.below_box _ _)).below (Lx.below_box _ _)).below (Lx.below_box _ _)).below (Lx.below_box _ _)).below (Lx.below_box _ _))
    · have := Bx.new (w.alloc (.cells #[.map none] 33)) #[.int .i64 0] 34
      rw [World.size_alloc] at this
      exact ((((this.below (Lx.below_box _ _)).below (Lx.below_box _ _)).below (Lx.below_box _ _)).below (Lx.below_box _ _))
    · have := Bx.new (((w.alloc (.cells #[.map none] 33)).alloc (.cells #[.int .i64 0] 34)).alloc (.map #[] 0)) #[.map (some (w.heap.size + 1 + 1))] 33
      simp only [World.size_alloc] at this
      exact ((this.below (Lx.below_box _ _)).below (Lx.below_box _ _))
    · have := World.ownsMap_made ((w.alloc (.cells #[.map none] 33)).alloc (.cells #[.int .i64 0] 34)) Try.prog 9 (plainElem (H := Unit) Try.prog 3)
      simp only [World.size_alloc] at this
      exact (((this.alloc _).alloc _).alloc _)
  have cR : ((((((w.alloc (.cells #[.map none] 33)).alloc (.cells #[.int .i64 0] 34)).alloc (.map #[] 0)).alloc (.cells #[.map (some (w.heap.size + 1 + 1))] 33)).alloc (.cells #[.slice ar rs.length cr] 24)).alloc (.cells #[.slice af fs.length cf] 22)).cell? ⟨w.heap.size + 1 + 1 + 1 + 1, 0, none⟩ = some (.slice ar rs.length cr) := by
    have := Bx.new ((((w.alloc (.cells #[.map none] 33)).alloc (.cells #[.int .i64 0] 34)).alloc (.map #[] 0)).alloc (.cells #[.map (some (w.heap.size + 1 + 1))] 33)) #[.slice ar rs.length cr] 24
    simp only [World.size_alloc] at this
    exact (this.below (Lx.below_box _ _)).c 0
  have cF : ((((((w.alloc (.cells #[.map none] 33)).alloc (.cells #[.int .i64 0] 34)).alloc (.map #[] 0)).alloc (.cells #[.map (some (w.heap.size + 1 + 1))] 33)).alloc (.cells #[.slice ar rs.length cr] 24)).alloc (.cells #[.slice af fs.length cf] 22)).cell? ⟨w.heap.size + 1 + 1 + 1 + 1 + 1, 0, none⟩ = some (.slice af fs.length cf) := by
    have := Bx.new (((((w.alloc (.cells #[.map none] 33)).alloc (.cells #[.int .i64 0] 34)).alloc (.map #[] 0)).alloc (.cells #[.map (some (w.heap.size + 1 + 1))] 33)).alloc (.cells #[.slice ar rs.length cr] 24)) #[.slice af fs.length cf] 22
    simp only [World.size_alloc] at this
    exact this.c 0
  gi_wp2
  generalize ((((((w.alloc (.cells #[.map none] 33)).alloc (.cells #[.int .i64 0] 34)).alloc (.map #[] 0)).alloc (.cells #[.map (some (w.heap.size + 1 + 1))] 33)).alloc (.cells #[.slice ar rs.length cr] 24)).alloc (.cells #[.slice af fs.length cf] 22)) = W1 at *
  refine wpIn_rangeFunc_ownG rfl h1 (gf := 31) (lb := #[.pointer (some ⟨w.heap.size + 1 + 1 + 1 + 1, 0, none⟩), .pointer (some ⟨w.heap.size + 1 + 1 + 1 + 1 + 1, 0, none⟩)]) rfl trivial (enters_of Try.func31 (by kernel_rfl) rfl)
    (preds_stops (n - 1) (by omega) _ _ _ _ rs fs HOK.out W1 cR cF (HR.out.kept (Kc.of_below hBw.out)) (HF.out.kept (Kc.of_below hBw.out))) Kc.trans (fun W l o o' _ h ho _ => Kc.put W l o o' h ho) (Below.refl _ _) (fun _ => rfl)
    (fun pre X => Hid (∃ D, Ar w X pre.length D (.map none) (.int .i64 0) ∧ MapOf D (foldN (pre.map (·.1))).1) ∧ (foldN (pre.map (·.1))).2 = true) (fun c pre X => c = .ret ∧ Hid (∃ N D, Ar w X N D (.map none) (.int .i64 6)) ∧ (foldN (pre.map (·.1))).2 = false)
    (fun s A B row hs hg hr => ⟨by obtain ⟨D, h1, h2⟩ := hs.1.out; exact ⟨D, h1.grown hg (fun r e => by have := (hr r e).1; omega), h2⟩, hs.2⟩)
    (fun c s A B row hs hg hr => ⟨hs.1, by obtain ⟨N, D, h1⟩ := hs.2.1.out; exact ⟨N, D, h1.grown hg (fun r e => by have := (hr r e).1; omega)⟩, hs.2.2⟩)
    ⟨⟨_, A0.out, MapOf.nil⟩, rfl⟩
    (fun x => { tmps := #[.slice ar rs.length cr, .slice af fs.length cf, undef, undef, .pointer (some ⟨w.heap.size, 0, none⟩), .pointer (some ⟨w.heap.size + 1, 0, none⟩), .pointer (some ⟨w.heap.size + 1 + 1 + 1, 0, none⟩), .string x.1.1, .int .i64 (x.1.2 : Int), undef, undef, .map (some (w.heap.size + 1 + 1)), .slice ar rs.length cr, .slice af fs.length cf, .func (.func 31) #[] #[.pointer (some ⟨w.heap.size + 1 + 1 + 1 + 1, 0, none⟩), .pointer (some ⟨w.heap.size + 1 + 1 + 1 + 1 + 1, 0, none⟩)], .string x.1.1, .int .i64 (x.1.2 : Int), undef, undef, undef, undef, undef, undef, undef, undef, undef, undef, undef, undef, undef, undef, undef, undef, undef, undef, undef], defers := [] }) ?assign ?body ?done ?stop
  case assign =>
    intro l' x X K hK
    have hsem := @Oper.semAt_some
    gi_wp2
    exact hK
  case body =>
    rintro l' pre x X ⟨HI, hp⟩ hlt2
    have hsem := @Oper.semAt_some
    obtain ⟨D, hA, hM⟩ := HI.out
    have HA := hide hA
    have HM := hide hM
    have HOWN := hide hA.own
    have c6 : X.cell? ⟨w.heap.size + 1 + 1 + 1, 0, none⟩ = some (.map (some (w.heap.size + 1 + 1))) := hA.c6.c 0
    have c4 := hA.c4.c 0
    have f4 := hA.c4.f 0
    have c5 := hA.c5.c 0
    have f5 := hA.c5.f 0
    have hx1 : x.1.1.size ≤ maxLen := by have := x.2.1; simp only [maxLen]; omega
    have hhas := hM.has x.1.1
    have hat' := hM.at' x.1.1
    have hXb := hA.below.size
    have hX6 := hA.c6.lt
    have HF2 : Hid (foldN ((pre ++ [x]).map (·.1)) = stepN (foldN (pre.map (·.1))) x.1) := by show _ = _; rw [List.map_append]; exact foldN_snoc _ _
    have hwh := wid_has (foldN (pre.map (·.1))).1 x.1.1
    clear HI hA hM
    cases hw : widN (foldN (pre.map (·.1))).1 x.1.1 with
    | some k =>
      rw [hw] at hat' hwh
      rw [hwh] at hhas
      have hok : okN (foldN (pre.map (·.1))).1 x.1 = (k == x.1.2) := by rw [okN, hw]
      have hadd : addN (foldN (pre.map (·.1))).1 x.1 = (foldN (pre.map (·.1))).1 := by rw [addN, if_pos (by rw [hwh]; rfl)]
      by_cases hk : k = x.1.2
      · have gk : ((k : Int) != (x.1.2 : Int)) = false := by simp; omega
        have HP2 : Hid ((foldN ((pre ++ [x]).map (·.1))).2 = true ∧ (foldN ((pre ++ [x]).map (·.1))).1 = (foldN (pre.map (·.1))).1) := by
          rw [HF2.out]
          exact ⟨by rw [stepN, hp, hok]; simp [hk], hadd⟩
        clear hk hok hadd hwh hw HF2
        gi_wp2_with (gi_at_lookup; refine wpListIn_lookup_own_ok_int _ rfl _ _ 33 rfl 9 3 .i64 (Maps.string_keyed Try.underlying9) Try.underlying33 Try.underlying3 (Try.zeroValue3 _) (w.heap.size + 1 + 1) _ D rfl HOWN.out _ _ rfl (WideMaps.keyOf_string_mk Try.underlying9 hx1) ?_; intro c hat hwc; rw [hhas]; have hc := hat'.symm.trans hat; simp at hc; subst hc; clear hat hwc)
        refine ⟨KeepsFrom.refl _ _, Kc.refl _, ⟨D, ⟨HA.out.c4, HA.out.c5, HA.out.c6, HA.out.own.mono (by simp), HA.out.below⟩, by rw [HP2.out.2]; exact HM.out⟩, HP2.out.1⟩
      · have gk : ((k : Int) != (x.1.2 : Int)) = true := by simp; omega
        have HP2 : Hid ((foldN ((pre ++ [x]).map (·.1))).2 = false) := by
          show _ = _
          rw [HF2.out, stepN, hok]
          simp [hk]
        clear hk hok hadd hwh hw HF2
        gi_wp2_with (gi_at_lookup; refine wpListIn_lookup_own_ok_int _ rfl _ _ 33 rfl 9 3 .i64 (Maps.string_keyed Try.underlying9) Try.underlying33 Try.underlying3 (Try.zeroValue3 _) (w.heap.size + 1 + 1) _ D rfl HOWN.out _ _ rfl (WideMaps.keyOf_string_mk Try.underlying9 hx1) ?_; intro c hat hwc; rw [hhas]; have hc := hat'.symm.trans hat; simp at hc; subst hc; clear hat hwc)
        refine ⟨((KeepsOthers.setCell _ _ _).trans (KeepsOthers.setCell _ _ _)).from _, rfl, ⟨_, _, HA.out.set _ _⟩, HP2.out⟩
    | none =>
      rw [hw] at hat' hwh
      rw [hwh] at hhas
      have hok : okN (foldN (pre.map (·.1))).1 x.1 = true := by rw [okN, hw]
      have hadd : addN (foldN (pre.map (·.1))).1 x.1 = (foldN (pre.map (·.1))).1 ++ [x.1] := by rw [addN, if_neg (by rw [hwh]; decide)]
      have HP2 : Hid ((foldN ((pre ++ [x]).map (·.1))).2 = true ∧ (foldN ((pre ++ [x]).map (·.1))).1 = (foldN (pre.map (·.1))).1 ++ [x.1]) := by
        rw [HF2.out]
        exact ⟨by rw [stepN, hp, hok]; rfl, hadd⟩
      have HCl : Hid (∀ W, Calls Try.prog 22 #[.string x.1.1] W fun e w' => e = .returned (.string x.1.1) ∧ Below W.heap.size W w') := fun W => clone_any x.1.1 W x.2.1
      have HNo : Hid (hasN (foldN (pre.map (·.1))).1 x.1.1 = false) := hwh
      clear hok hadd hwh hw HF2
      gi_wp2_with (gi_at_lookup; refine wpListIn_lookup_own_ok_int _ rfl _ _ 33 rfl 9 3 .i64 (Maps.string_keyed Try.underlying9) Try.underlying33 Try.underlying3 (Try.zeroValue3 _) (w.heap.size + 1 + 1) _ D rfl HOWN.out _ _ rfl (WideMaps.keyOf_string_mk Try.underlying9 hx1) ?_; intro c hat hwc; rw [hhas]; have hc := hat'.symm.trans hat; simp at hc; subst hc; clear hat hwc)
      have hN : pre.length < maxLen := by
        have := HNL.out
        simp only [maxLen]
        omega
      have hwf : (Lit.int .i64 (x.1.2 : Int)).wf = true := by
        have h1 := x.2.2
        have h2 := wrap64_wf (x.1.2 : Int)
        have h3 : wrap64 (x.1.2 : Int) = (x.1.2 : Int) := by simp only [maxLen] at h1; unfold wrap64; omega
        rw [h3] at h2
        exact h2
      have hmix : Try.prog.follows Departure.mixedOrders = true := by kernel_rfl
      gi_region_with_o (refine ⟨trivial, fun _ => by omega, ?_⟩; gi_at_call 22; refine (CallsIn.inRound l' (callsIn_wide.2 (HCl.out _))).mono ?_; rintro e w2 ⟨rfl, hb2⟩; have HA2 := hide (HA.out.below' ((Below.refl _ X).drew.trans hb2)); have c6b : w2.cell? ⟨w.heap.size + 1 + 1 + 1, 0, none⟩ = some (.map (some (w.heap.size + 1 + 1))) := HA2.out.c6.c 0; obtain ⟨w3, hrun, hown1, hgrow1⟩ := HA2.out.own.update (Maps.string_keyed Try.underlying9) Try.underlying33 hN (WideMaps.keyOf_string_mk Try.underlying9 hx1) (plainElem_int (H := Unit) Try.underlying3 hwf))
      all_goals gi_wp2
      all_goals exact Ar_end HA2.out ((Below.refl _ X).drew.trans hb2) HM.out HNo.out HP2.out hown1 hgrow1 (by omega)
  case done =>
    rintro E ys X hD rfl ⟨HI, hp⟩ hK
    obtain ⟨D, hA, hM⟩ := HI.out
    have hall : (castP (rawRs rs ++ fs)).map (·.1) = rawRs rs ++ fs := castP_all HOK.out
    rw [hall] at hp hM
    have c4 := hA.c4.c 0
    have f4 := hA.c4.f 0
    have c5 := hA.c5.c 0
    have f5 := hA.c5.f 0
    have c6 : X.cell? ⟨w.heap.size + 1 + 1 + 1, 0, none⟩ = some (.map (some (w.heap.size + 1 + 1))) := hA.c6.c 0
    have HA := hide (hA.set (.map (some (w.heap.size + 1 + 1))) (.int .i64 0))
    have HM := hide hM
    have hK2 : Hid (((X.setCell ⟨w.heap.size, 0, none⟩ (.map (some (w.heap.size + 1 + 1)))).setCell ⟨w.heap.size + 1, 0, none⟩ (.int .i64 0)).heap[E]? = some (.deferred (some []))) := ((KeepsOthers.setCell X ⟨w.heap.size, 0, none⟩ (.map (some (w.heap.size + 1 + 1)))).trans (KeepsOthers.setCell _ ⟨w.heap.size + 1, 0, none⟩ (.int .i64 0))).same E _ hK rfl
    clear HI hA hM
    gi_wp2
    refine leaves_marks [E] _ (fun e he => by rw [List.mem_singleton.1 he]; exact hK2.out) (by simp) (fun W' hW' => ?_)
    have hA := HA.out.fr hW' (fun k hk e => by have := List.mem_singleton.1 e; omega)
    have h4 := hA.c4.c 0
    have h5 := hA.c5.c 0
    refine ⟨.tuple #[.map (some (w.heap.size + 1 + 1)), .int .i64 0], by simp at h4 h5; simp [results, Try.f9, go_sem, h4, h5], ?_, hA.below⟩
    rw [if_pos hp]
    exact ⟨rfl, _, D, hA.own, HM.out⟩
  case stop =>
    rintro E c pre X hD hpre ⟨rfl, HI, hp⟩ hK
    obtain ⟨N, D, hA0⟩ := HI.out
    gi_wp2
    refine leaves_marks [E] _ (fun e he => by rw [List.mem_singleton.1 he]; exact hK) (by simp) (fun W' hW' => ?_)
    have hA := hA0.fr hW' (fun k hk e => by have := List.mem_singleton.1 e; omega)
    have h4 := hA.c4.c 0
    have h5 := hA.c5.c 0
    refine ⟨.tuple #[.map none, .int .i64 6], by simp at h4 h5; simp [results, Try.f9, go_sem, h4, h5], ?_, hA.below⟩
    obtain ⟨q, hq⟩ := hpre
    have hall : (castP (rawRs rs ++ fs)).map (·.1) = rawRs rs ++ fs := castP_all HOK.out
    have hfalse : (foldN (rawRs rs ++ fs)).2 = false := by
      rw [← hall, ← hq, List.map_append]
      exact foldN_mono _ _ hp
    rw [if_neg (by rw [hfalse]; decide)]
end Go.Proofs.Ytienpejlfjhnmaa.Ck
namespace Go.Proofs.Ytienpejlfjhnmaa.Ck
open Go.RowKit Go.Shelf
open Vl (Tm Ts Fr)
open Sy

/-- What allIn has in memory. -/
structure As (w X : World) (b N : Nat) (D : DataW Unit) (r : Bool) : Prop where
  box : Bx X w.heap.size 54 #[.map (some b)]
  res : Bx X (w.heap.size + 1) 4 #[.bool r]
  own : X.ownsMap Try.prog 9 (unitElem (H := Unit)) b N D
  below : Below w.heap.size w X
theorem As.fr {w X X' : World} {b N : Nat} {D : DataW Unit} {r : Bool} (h : As w X b N D r) {F : Nat → Prop} (hf : Fr F X X') (hF : ∀ k, k < w.heap.size + 2 → F k → False) (hb : b < w.heap.size) : As w X' b N D r :=
  ⟨h.box.fr hf (hF _ (by omega)), h.res.fr hf (hF _ (by omega)), ownsMap_fr h.own hf (hF _ (by omega)), h.below.trans (hf.below (fun k hk => by
    by_cases hl : k < w.heap.size
    · exact (hF k (by omega) hk).elim
    · omega) h.below.size)⟩
theorem As.grown {w A B : World} {b N : Nat} {D : DataW Unit} {r : Bool} (h : As w A b N D r) (hb : b < w.heap.size) {row : Option Nat} (hg : A.grownBy B row) (hr : ∀ r, row = some r → w.heap.size + 2 ≤ r) : As w B b N D r :=
  h.fr (F := fun k => row = some k) (Vl.Fr.of_grown hg (fun k e => e)) (fun k hk e => by have := hr k e; omega) hb
theorem As.alloc {w X : World} {b N : Nat} {D : DataW Unit} {r : Bool} (h : As w X b N D r) (hb : b < w.heap.size) (o : Obj) : As w (X.alloc o) b N D r := h.fr (F := fun _ => False) ((Fr.refl _ _).alloc o) (fun _ _ e => e) hb
theorem As.set {w X : World} {b N : Nat} {D : DataW Unit} {r : Bool} (h : As w X b N D r) (hb : b < w.heap.size) (s : Bool) : As w (X.setCell ⟨w.heap.size + 1, 0, none⟩ (.bool s)) b N D s := by
  have hf : Fr (fun k => k = w.heap.size + 1) X (X.setCell ⟨w.heap.size + 1, 0, none⟩ (.bool s)) := Vl.Fr.one X _ 0 _
  exact ⟨h.box.fr hf (by omega), h.res.set 0 _, ownsMap_fr h.own hf (by omega), h.below.setCell (p := ⟨w.heap.size + 1, 0, none⟩) (by show w.heap.size ≤ w.heap.size + 1; omega) _⟩

set_option maxRecDepth 100000 in
set_option maxHeartbeats 8000000 in
theorem allIn_in (n : Nat) (hn : 3 ≤ n) (b N : Nat) (D : DataW Unit) (S : List Nm) (hset : SetOf D S) (ts : List Tm) (v : Value) (w : World) (hown : w.ownsMap Try.prog 9 (unitElem (H := Unit)) b N D) (hv : isTs w ts v) (hl : ts.length ≤ 1000000) (hsz : ∀ t ∈ ts, t.2.1.size ≤ maxLen) :
    CallsIn Fence.wide n Try.prog 18 #[.map (some b), v] w fun e W' => e = .returned (.bool ((varsT ts).all (inS S))) ∧ Below w.heap.size w W' := by
  have HT := hide (TsB.of hv hl)
  obtain ⟨_, ao, cap, rfl⟩ := own_len hv
  have hb := hown.lt
  have HS := hide hset
  have HZ := hide hsz
  have h1 : 1 ≤ n := by omega
  have A0 : Hid (As w ((w.alloc (.cells #[.map (some b)] 54)).alloc (.cells #[.bool false] 4)) b N D false) := by
    refine ⟨(Bx.new w _ _).below (Lx.below_box _ _), ?_, (hown.alloc _).alloc _, ((Below.refl _ w).alloc (Nat.le_refl _) _).alloc (by simp) _⟩
    have := Bx.new (w.alloc (.cells #[.map (some b)] 54)) #[.bool false] 4
    rw [World.size_alloc] at this
    exact this
  clear hv hset hsz hown
  refine callsIn_of_wp_marks Try.func18 rfl trivial ?_ rfl
  simp only [Try.ntmps18, List.size_toArray, List.length_cons, List.length_nil, Nat.reduceAdd, Nat.reduceSub, Array.replicate_succ, Array.replicate_zero, List.push_toArray, List.append_toArray, List.nil_append, List.cons_append]
  gi_wp2
  refine ⟨trivial, ?_⟩
  refine (vars_in (n - 1) _ _ _ _).mono ?_
  rintro e w' ⟨rfl, rfl⟩
  have A1 := hide (A0.out.alloc hb (.cells #[.slice ao ts.length cap] 27))
  have cB := cell_two (w.alloc (.cells #[.map (some b)] 54)) (.cells #[.bool false] 4) (.slice ao ts.length cap) 27
  rw [World.size_alloc] at cB
  have hszW : (((w.alloc (.cells #[.map (some b)] 54)).alloc (.cells #[.bool false] 4)).alloc (.cells #[.slice ao ts.length cap] 27)).heap.size = w.heap.size + 3 := by simp
  clear A0
  gi_wp2
  generalize (((w.alloc (.cells #[.map (some b)] 54)).alloc (.cells #[.bool false] 4)).alloc (.cells #[.slice ao ts.length cap] 27)) = W1 at *
  refine wpIn_rangeFunc_ownG rfl h1 (gf := 37) (lb := #[.pointer (some ⟨w.heap.size + 1 + 1, 0, none⟩)]) rfl trivial (enters_of Try.func37 (by kernel_rfl) rfl)
    (vars_stops (n - 1) (by omega) (w.heap.size + 1 + 1) w.heap.size _ ts HZ.out W1 (by omega) (by omega) cB (HT.out.below A1.out.below)) belowK_t (belowK_b (by omega)) (Below.refl _ _) (fun _ => rfl)
    (fun pre X => Hid (As w X b N D false) ∧ pre.all (inS S) = true) (fun c pre X => c = .ret ∧ Hid (As w X b N D false) ∧ pre.all (inS S) = false)
    (fun s A B row hs hg hr => ⟨hs.1.out.grown hb hg (fun r e => by have := (hr r e).1; omega), hs.2⟩)
    (fun c s A B row hs hg hr => ⟨hs.1, hs.2.1.out.grown hb hg (fun r e => by have := (hr r e).1; omega), hs.2.2⟩)
    ⟨A1, rfl⟩
    (fun x => { tmps := #[.map (some b), .slice ao ts.length cap, .pointer (some ⟨w.heap.size, 0, none⟩), undef, .pointer (some ⟨w.heap.size + 1, 0, none⟩), .string x.1, undef, undef, .slice ao ts.length cap, .func (.func 37) #[] #[.pointer (some ⟨w.heap.size + 1 + 1, 0, none⟩)], .string x.1, undef, undef, undef, undef, undef, undef, undef, undef], defers := [] }) ?assign ?body ?done ?stop
  case assign =>
    intro l' x X K hK
    have hsem := @Oper.semAt_some
    gi_wp2
    exact hK
  case body =>
    rintro l' pre x X ⟨HI, hp⟩ hlt2
    have hsem := @Oper.semAt_some
    have c0 := HI.out.box.c 0
    have A2 := hide fun o => HI.out.alloc hb o
    have c1 := fun o => (A2.out o).res.c 0
    have f1 := fun o => (A2.out o).res.f 0
    have hh := HS.out.2 x
    have HOWN := hide HI.out.own
    have hXs := HI.out.below.size
    have hXr := HI.out.res.lt
    simp only [List.getElem?_toArray, List.getElem?_cons_zero] at c1
    cases hx : inS S x
    · rw [hx] at hh
      have HP : Hid ((pre ++ [x]).all (inS S) = false) := by show _ = _; rw [List.all_append]; simp [hx]
      clear hx
      gi_wp2_with (gi_at_lookup; refine wpListIn_lookup_own_unit _ rfl _ _ 54 rfl 9 78 (Maps.string_keyed Try.underlying9) Try.underlying54 (by kernel_rfl) b N D rfl HOWN.out _ _ rfl (WideMaps.keyOf_string_mk Try.underlying9 x.2) ?_; rw [hh])
      exact ⟨((KeepsOthers.setCell _ _ _).trans (KeepsOthers.alloc _ _)).from _, rfl, (HI.out.set hb false).alloc hb _, HP.out⟩
    · rw [hx] at hh
      have HP : Hid ((pre ++ [x]).all (inS S) = true) := by show _ = _; rw [List.all_append, hp]; simp [hx]
      clear hx
      gi_wp2_with (gi_at_lookup; refine wpListIn_lookup_own_unit _ rfl _ _ 54 rfl 9 78 (Maps.string_keyed Try.underlying9) Try.underlying54 (by kernel_rfl) b N D rfl HOWN.out _ _ rfl (WideMaps.keyOf_string_mk Try.underlying9 x.2) ?_; rw [hh])
      exact ⟨(KeepsOthers.alloc _ _).from _, (Below.refl _ X).alloc hXs _, A2.out _, HP.out⟩
  case done =>
    rintro E ys X hD rfl ⟨HI, hp⟩ hK
    have c1 := HI.out.res.c 0
    have f1 := HI.out.res.f 0
    have HA := hide (HI.out.set hb true)
    have hK2 : Hid ((X.setCell ⟨w.heap.size + 1, 0, none⟩ (.bool true)).heap[E]? = some (.deferred (some []))) := (KeepsOthers.setCell X ⟨w.heap.size + 1, 0, none⟩ (.bool true)).same E _ hK rfl
    gi_wp2
    refine leaves_marks [E] _ (fun e he => by rw [List.mem_singleton.1 he]; exact hK2.out) (by simp) (fun W' hW' => ?_)
    have hA := HA.out.fr hW' (fun k hk e => by have := List.mem_singleton.1 e; omega) hb
    have hc := hA.res.c 0
    refine ⟨.bool true, by simp at hc; simp [results, Try.f18, go_sem, hc], ?_, hA.below⟩
    rw [hp]
  case stop =>
    rintro E c pre X hD hpre ⟨rfl, HI, hp⟩ hK
    gi_wp2
    refine leaves_marks [E] _ (fun e he => by rw [List.mem_singleton.1 he]; exact hK) (by simp) (fun W' hW' => ?_)
    have hA := HI.out.fr hW' (fun k hk e => by have := List.mem_singleton.1 e; omega) hb
    have hc := hA.res.c 0
    refine ⟨.bool false, by simp at hc; simp [results, Try.f18, go_sem, hc], ?_, hA.below⟩
    obtain ⟨q, hq⟩ := hpre
    rw [← hq, List.all_append, hp]
    rfl
end Go.Proofs.Ytienpejlfjhnmaa.Ck
namespace Go.Proofs.Ytienpejlfjhnmaa.Ck
open Go.RowKit
open Vl (Tm Ts Fr)
open Sy

def needK (k : Int) : Bool := decide (2 ≤ k) && decide (k ≤ 6)
theorem needs_any (k : Int) (w : World) : Calls Try.prog 19 #[.int .i64 k] w fun e w' => e = .returned (.bool (needK k)) ∧ w' = w := by
  by_cases h2 : k = 2
  · subst h2
    go_enter Try.func19, Try.ntmps19
    go_wp2
    go_ret
    exact ⟨rfl, rfl⟩
  by_cases h3 : k = 3
  · subst h3
    go_enter Try.func19, Try.ntmps19
    go_wp2
    go_ret
    exact ⟨rfl, rfl⟩
  by_cases h4 : k = 4
  · subst h4
    go_enter Try.func19, Try.ntmps19
    go_wp2
    go_ret
    exact ⟨rfl, rfl⟩
  by_cases h5 : k = 5
  · subst h5
    go_enter Try.func19, Try.ntmps19
    go_wp2
    go_ret
    exact ⟨rfl, rfl⟩
  by_cases h6 : k = 6
  · subst h6
    go_enter Try.func19, Try.ntmps19
    go_wp2
    go_ret
    exact ⟨rfl, rfl⟩
  · have hn : needK k = false := by
      unfold needK
      rw [Bool.and_eq_false_iff]
      by_cases hk : 2 ≤ k
      · right; simp; omega
      · left; simpa using hk
    have g2 : (k == 2) = false := by simpa using h2
    have g3 : (k == 3) = false := by simpa using h3
    have g4 : (k == 4) = false := by simpa using h4
    have g5 : (k == 5) = false := by simpa using h5
    have g6 : (k == 6) = false := by simpa using h6
    rw [hn]
    go_enter Try.func19, Try.ntmps19
    go_wp2
    go_ret
    exact ⟨rfl, rfl⟩

/-- Is a rule safe? -/
def safeR (q : Rul) : Bool := (varsT q.1.2.2).all (inS (boundL q.2)) && q.2.all fun l => !needK l.1 || (varsT l.2.2).all (inS (boundL q.2))
structure FewR (q : Rul) : Prop where
  head : q.1.2.2.length ≤ 1000000 ∧ ∀ t ∈ q.1.2.2, t.2.1.size ≤ maxLen
  body : Few q.2

theorem all_take {α : Type} {p : α → Bool} {ls : List α} {k : Nat} (h : k < ls.length) : (ls.take (k + 1)).all p = ((ls.take k).all p && p ls[k]) := by
  rw [List.take_succ_eq_append_getElem h, List.all_append]
  simp
theorem all_false {α : Type} {p : α → Bool} {ls : List α} {k : Nat} (h : k < ls.length) (hp : p ls[k] = false) : ls.all p = false := by
  rw [List.all_eq_false]
  exact ⟨_, List.getElem_mem h, by rw [hp]; decide⟩

set_option maxRecDepth 10000 in
set_option maxHeartbeats 4000000 in
theorem safe_any {w : World} {q : Rul} {y : Value} (h : isRul w q y) (hf : FewR q) :
    Calls Try.prog 7 #[y] w fun e w' => e = .returned (.bool (safeR q)) ∧ Below w.heap.size w w' := by
  obtain ⟨⟨hk, hnm, ht⟩, ls⟩ := q
  obtain ⟨va, vb, rfl, hva, hvb⟩ := h
  simp only at hva hvb ⊢
  obtain ⟨_, aoa, capa, rfl⟩ := own_len hva
  obtain ⟨aob, capb, rfl⟩ := isLs_shape hvb
  have hlen := hf.body.len
  have HF := hide hf
  have HVA := hide hva
  have HVB := hide hvb
  have HC := hide (isLs_cells hvb).2
  have hx0 := Lx.below_box w (.cells #[.int .i64 hk, .string hnm, .slice aoa ht.length capa, .slice aob ls.length capb] 32)
  have HB0 := hide hx0
  have HBd := hide (callsIn_wide.1 (boundBy_in 3 (Nat.le_refl _) ls _ (w.alloc (.cells #[.int .i64 hk, .string hnm, .slice aoa ht.length capa, .slice aob ls.length capb] 32)) (isLs_below hvb hx0) hf.body))
  have B0 := hide (Bx.new w #[.int .i64 hk, .string hnm, .slice aoa ht.length capa, .slice aob ls.length capb] 32)
  clear hva hvb hf hx0
  go_enter Try.func7, Try.ntmps7
  go_wp2_with fail
  refine Calls.mono HBd.out ?_
  rintro e w1 ⟨rfl, ⟨D, hown, hset⟩, hb1⟩
  have HB1 := hide (HB0.out.trans (hb1.mono HB0.out.size))
  have B1 := hide (B0.out.below hb1)
  have HO := hide hown
  have HS := hide hset
  generalize hbk : (w.alloc (.cells #[.int .i64 hk, .string hnm, .slice aoa ht.length capa, .slice aob ls.length capb] 32)).heap.size = b at *
  have HA : Hid (∀ (ts : List Tm) (v : Value) (W : World), Below w1.heap.size w1 W → isTs W ts v → ts.length ≤ 1000000 → (∀ t ∈ ts, t.2.1.size ≤ maxLen) → Calls Try.prog 18 #[.map (some b), v] W fun e W' => e = .returned (.bool ((varsT ts).all (inS (boundL ls)))) ∧ Below W.heap.size W W') := fun ts v W hW hv hl hsz =>
    callsIn_wide.1 (allIn_in 3 (Nat.le_refl _) b _ D _ HS.out ts v W (ownsMap_fr HO.out (Fr.of_below (F := fun _ => False) hW) id) hv hl hsz)
  obtain ⟨⟨c0, c1, c2, c3⟩, _, _, _, _⟩ := B1.out.four
  clear hown hset hb1 HBd HB0 B0 HO HS
  have HA1 := hide (HA.out ht _ w1 (Below.refl _ _) (isTs_below HVA.out HB1.out) HF.out.head.1 HF.out.head.2)
  have HSR : Hid (safeR ((hk, hnm, ht), ls) = ((varsT ht).all (inS (boundL ls)) && ls.all fun l => !needK l.1 || (varsT l.2.2).all (inS (boundL ls)))) := rfl
  obtain ⟨p, hp⟩ : ∃ p : Sy.Lit → Bool, p = fun l => !needK l.1 || (varsT l.2.2).all (inS (boundL ls)) := ⟨_, rfl⟩
  rw [← hp] at HSR
  have HP := hide hp
  clear hp
  go_wp2_with fail
  refine Calls.mono HA1.out ?_
  rintro e w2 ⟨rfl, hb2⟩
  have HB2 := hide (HB1.out.trans (hb2.mono HB1.out.size))
  have HB12 := hide hb2
  have B2 := hide (B1.out.below hb2)
  clear c0 c1 c2 c3 hb2 HA1 B1
  obtain ⟨⟨c0, c1, c2, c3⟩, _, _, _, _⟩ := B2.out.four
  cases hh : (varsT ht).all (inS (boundL ls))
  · rw [hh, Bool.false_and] at HSR
    go_wp2_with fail
    go_ret
    rw [HSR.out]
    exact ⟨rfl, HB2.out⟩
  · rw [hh, Bool.true_and] at HSR
    clear hh
    go_wp2_with fail
    go_loopw [18] (fun iv wr => ∃ i : Nat, iv = .int .i64 i ∧ i ≤ ls.length ∧ Hid ((ls.take i).all p = true) ∧ Hid (Below w.heap.size w wr) ∧ Hid (Below w1.heap.size w1 wr)) (fun iv _ => ls.length - (intOf iv).toNat)
    case atStart => exact ⟨0, rfl, Nat.zero_le _, rfl, HB2, HB12⟩
    case round =>
      obtain ⟨i, rfl, hi, HI, HBw, HB1w⟩ := hrel
      by_cases hlt : i < ls.length
      · have hltI : (i : Int) < (ls.length : Int) := by omega
        obtain ⟨g, rfl, hc⟩ := HC.out (by omega)
        obtain ⟨u, hu, k0, k1, k2⟩ := hc i hlt
        have k0 := cell_below' k0 HBw.out
        have k1 := cell_below' k1 HBw.out
        have k2 := cell_below' k2 HBw.out
        have HAT := hide (all_take (p := p) hlt)
        have HAF : Hid (p ls[i] = false → ls.all p = false) := fun hp => all_false hlt hp
        have hfa := HF.out.body.args _ (List.getElem_mem hlt)
        have HPP : Hid (p ls[i] = (!needK ls[i].1 || (varsT ls[i].2.2).all (inS (boundL ls)))) := by show _ = _; rw [HP.out]
        have HNB := hide (needs_any ls[i].1)
        obtain ⟨_, aou, capu, rfl⟩ := own_len hu
        have HAA : Hid (∀ W, Below wr.heap.size wr W → Calls Try.prog 18 #[.map (some b), .slice aou ls[i].2.2.length capu] W fun e W' => e = .returned (.bool ((varsT ls[i].2.2).all (inS (boundL ls)))) ∧ Below W.heap.size W W') := fun W hW =>
          HA.out ls[i].2.2 _ W (HB1w.out.trans (hW.mono HB1w.out.size)) (isTs_below hu (HBw.out.trans (hW.mono HBw.out.size))) hfa.1 hfa.2
        clear hc hu hfa c0 c1 c2 c3
        generalize ls[i] = l at *
        have hXb := hide fun o => Lx.below_box wr o
        cases hnk : needK l.1
        · rw [hnk] at HNB HPP
          simp only [Bool.not_false, Bool.true_or] at HPP
          go_wp2_with fail
          refine Calls.mono (HNB.out _) ?_
          rintro e w3 ⟨rfl, hw3⟩
          have hw3' := hw3.symm
          subst hw3'
          clear hw3
          go_wp2_with fail
          go_roundw
          case rel => exact ⟨i + 1, by go_num, by omega, by rw [HAT.out, HI.out, HPP.out]; rfl, HBw.out.trans ((hXb.out _).mono HBw.out.size), HB1w.out.trans ((hXb.out _).mono HB1w.out.size)⟩
          case measure => simp [intOf]; omega
        · rw [hnk] at HNB HPP
          simp only [Bool.not_true, Bool.false_or] at HPP
          go_wp2_with fail
          refine Calls.mono (HNB.out _) ?_
          rintro e w3 ⟨rfl, hw3⟩
          have hw3' := hw3.symm
          subst hw3'
          clear hw3
          go_wp2_with fail
          refine Calls.mono (HAA.out _ (hXb.out _)) ?_
          rintro e w4 ⟨rfl, hb4⟩
          have HB4 := hide (HBw.out.trans ((hXb.out _).trans (hb4.mono (hXb.out _).size) |>.mono HBw.out.size))
          have HB4' := hide (HB1w.out.trans ((hXb.out _).trans (hb4.mono (hXb.out _).size) |>.mono HB1w.out.size))
          clear hb4
          cases hq : (varsT l.2.2).all (inS (boundL ls))
          · rw [hq] at HPP
            go_wp2_with fail
            go_ret
            rw [HSR.out, HAF.out HPP.out]
            exact ⟨rfl, HB4.out⟩
          · rw [hq] at HPP
            go_wp2_with fail
            go_roundw
            case rel => exact ⟨i + 1, by go_num, by omega, by rw [HAT.out, HI.out, HPP.out]; rfl, HB4, HB4'⟩
            case measure => simp [intOf]; omega
      · have hltI : ¬ (i : Int) < (ls.length : Int) := by omega
        have hie : ls.take i = ls := by rw [show i = ls.length by omega, List.take_length]
        rw [hie] at HI
        clear hie
        go_wp2_with fail
        go_ret
        rw [HSR.out, HI.out]
        exact ⟨rfl, HBw.out⟩
end Go.Proofs.Ytienpejlfjhnmaa.Ck

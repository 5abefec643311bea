/- The walk of boundBy. The walk of allIn. The walks of needsBound and Safe. The reference's binds: its contract. -/
import Derived.Test.YtienpejlfjhnmaaPart09
import Derived.Maps.OwnSet
import Derived.StringKeys
import Derived.Lib.QuietBelow
namespace Go.Proofs.Ytienpejlfjhnmaa.Ck
open Go.RowKit Go.Shelf
open Vl (Tm Ts Fr)
open Sy

/-- The marks that loops over functions leave. -/
def marks (dl : List Nat) : List Deferred := dl.map fun D => { target := .collected D, args := #[] }

/-- A frame that leaves with marks alone. -/
theorem leaves_marks {F : Fence} {n : Nat} {P : Program} {fn : Func} {tmps : Array Value} {R : Ending → World → Prop} : ∀ (dl : List Nat) (W : World), (∀ D ∈ dl, W.heap[D]? = some (.deferred (some []))) → dl.Nodup →
    (∀ W', Fr (fun k => k ∈ dl) W W' → LeavesIn F n P fn tmps R [] .returning W') → LeavesInM F n P fn tmps R (marks dl) .returning W := by
  intro dl
  induction dl with
  | nil => intro W _ _ h; exact h W (Fr.refl _ _)
  | cons D dl ih =>
    intro W hd hn h
    have hK := hd D (by simp)
    have hlt : D < W.heap.size := (Array.getElem?_eq_some_iff.1 hK).1
    obtain ⟨hD, hn⟩ := List.nodup_cons.1 hn
    have hF : Fr (fun k => k = D) W (W.putObj D (.deferred none)) := ⟨rfl, rfl, rfl, by simp [World.putObj], fun k hk hne => World.putObj_heap_other hne⟩
    refine ⟨by simp, .inl ⟨D, _, rfl, run_takeDeferred hK, ?_⟩⟩
    refine ih _ (fun E hE => ?_) hn (fun W' hW' => ?_)
    · rw [World.putObj_heap_other (fun e : E = D => hD (e ▸ hE))]
      exact hd E (by simp [hE])
    · refine h W' ((hF.mono (G := fun k => k ∈ D :: dl) (fun x _ e => by simp [e])).trans hW' (fun x _ e => by simp [e]))

theorem ownsMap_fr {F : Nat → Prop} {W W' : World} {k : TypeId} {R : Value → Option (DataW Unit × List MemPlace)} {b n : Nat} {D : DataW Unit} (h : W.ownsMap Try.prog k R b n D) (hf : Fr F W W') (hb : ¬ F b) : W'.ownsMap Try.prog k R b n D := by
  have hlt := h.lt
  obtain ⟨es, ck, hh, rest⟩ := h
  exact ⟨es, ck, (hf.block b hlt hb).trans hh, rest⟩

/-- A set of names, as it is read. -/
def inS (S : List Nm) (x : Nm) : Bool := S.any fun y => y.1.data.toList == x.1.data.toList
def SetOf (D : DataW Unit) (S : List Nm) : Prop := Maps.IsMap D ∧ ∀ x : Nm, Maps.has D (.string x.1.data.toList) = inS S x
theorem SetOf.nil : SetOf (.map []) [] := ⟨⟨[], rfl⟩, fun x => by simp [Maps.has, inS]⟩
theorem nm_ext {x y : Nm} (h : x.1.data.toList = y.1.data.toList) : x = y := Subtype.ext (Vl.bytes_ext h)
theorem key_str {x : List UInt8} : WideAt.IsKeyLit (.string x) := by first | trivial | exact ⟨_, rfl⟩ | simp [WideAt.IsKeyLit]
theorem SetOf.put {D : DataW Unit} {S : List Nm} (h : SetOf D S) (x : Nm) (d : DataW Unit) : SetOf (D.put (.string x.1.data.toList) d) (S ++ [x]) := by
  have hm : Maps.IsMap (D.put (.string x.1.data.toList) d) := by
    obtain ⟨es, rfl⟩ := h.1
    exact ⟨_, rfl⟩
  refine ⟨hm, fun y => ?_⟩
  by_cases hy : y = x
  · subst hy
    rw [Maps.has_put_same h.1 key_str]
    simp [inS]
  · have hne : ¬ x.1.data.toList = y.1.data.toList := fun e => hy (nm_ext e.symm)
    rw [Maps.has_put_other (fun e => hy (nm_ext (by simpa using e))), h.2]
    have hb : (x.1.data.toList == y.1.data.toList) = false := by rw [beq_eq_false_iff_ne]; exact hne
    rw [inS, inS, List.any_append, List.any_cons, List.any_nil, hb, Bool.or_false, Bool.or_false]

/-- What boundBy has in memory: its map, the map's box, the marks. -/
structure Bb (w W : World) (S : List Nm) (dl : List Nat) : Prop where
  box : Bx W (w.heap.size + 1) 54 #[.map (some w.heap.size)]
  map : ∃ D, W.ownsMap Try.prog 9 (unitElem (H := Unit)) w.heap.size S.length D ∧ SetOf D S
  below : Below w.heap.size w W
  ds : ∀ D ∈ dl, w.heap.size ≤ D ∧ W.heap[D]? = some (.deferred (some []))
  nd : dl.Nodup
theorem Bb.fr {w W W' : World} {S : List Nm} {dl : List Nat} (h : Bb w W S dl) {F : Nat → Prop} (hf : Fr F W W') (hF : ∀ k, k < W.heap.size → F k → False) : Bb w W' S dl := by
  obtain ⟨D, h1, h2⟩ := h.map
  refine ⟨h.box.fr hf (hF _ h.box.lt), ⟨D, ownsMap_fr h1 hf (hF _ h1.lt), h2⟩, h.below.trans (hf.below (fun k hk => by
    by_cases hl : k < W.heap.size
    · exact (hF k hl hk).elim
    · have := h.below.size; omega) h.below.size), fun D hD => ⟨(h.ds D hD).1, ?_⟩, h.nd⟩
  have hl : D < W.heap.size := (Array.getElem?_eq_some_iff.1 (h.ds D hD).2).1
  rw [hf.block D hl (hF D hl)]
  exact (h.ds D hD).2
theorem Bb.alloc {w W : World} {S : List Nm} {dl : List Nat} (h : Bb w W S dl) (o : Obj) : Bb w (W.alloc o) S dl := h.fr (F := fun _ => False) ((Fr.refl _ _).alloc o) (fun _ _ e => e)
theorem Bb.grown {w A B : World} {S : List Nm} {dl : List Nat} (h : Bb w A S dl) {row : Option Nat} (hg : A.grownBy B row) {z : Nat} (hz : w.heap.size + 2 ≤ z) (hd : ∀ D ∈ dl, D < z) (hr : ∀ r, row = some r → z ≤ r) : Bb w B S dl := by
  obtain ⟨D, h1, h2⟩ := h.map
  have hblk : ∀ k, k < z → k < A.heap.size → B.heap[k]? = A.heap[k]? := fun k hk hl => hg.block k hl (fun e => by have := hr k e.symm; omega)
  refine ⟨?_, ⟨D, ?_, h2⟩, ⟨hg.os.trans h.below.os, hg.tape.trans h.below.tape, hg.output.trans h.below.output, Nat.le_trans h.below.size hg.size, fun k hk => (hblk k (by omega) (Nat.lt_of_lt_of_le hk h.below.size)).trans (h.below.block k hk)⟩, fun D hD => ⟨(h.ds D hD).1, ?_⟩, h.nd⟩
  · exact (hblk _ (by omega) h.box.lt).trans h.box
  · have hlt := h1.lt
    obtain ⟨es, ck, hh, rest⟩ := h1
    exact ⟨es, ck, (hblk _ (by omega) hlt).trans hh, rest⟩
  · have hl : D < A.heap.size := (Array.getElem?_eq_some_iff.1 (h.ds D hD).2).1
    exact (hblk D (hd D hD) hl).trans (h.ds D hD).2

theorem cell_two (W : World) (o : Obj) (v : Value) (t : TypeId) : ((W.alloc o).alloc (.cells #[v] t)).cell? ⟨W.heap.size + 1, 0, none⟩ = some v := by
  have h := (Bx.new (W.alloc o) #[v] t).c 0
  rw [World.size_alloc] at h
  exact h
/-- The variables that a body's atoms bind. -/
def boundL (ls : List Sy.Lit) : List Nm := ls.flatMap fun l => if l.1 = 1 then varsT l.2.2 else []
theorem boundL_take {ls : List Sy.Lit} {k : Nat} (h : k < ls.length) : boundL (ls.take (k + 1)) = boundL (ls.take k) ++ (if ls[k].1 = 1 then varsT ls[k].2.2 else []) := by
  unfold boundL
  rw [List.take_succ_eq_append_getElem h, List.flatMap_append]
  simp
theorem boundL_pre (ls : List Sy.Lit) (k : Nat) : (boundL (ls.take k)).length ≤ (boundL ls).length := by
  have h : ls = ls.take k ++ ls.drop k := (List.take_append_drop k ls).symm
  conv => rhs; rw [h]
  unfold boundL
  rw [List.flatMap_append, List.length_append]
  omega
/-- Names and lists of a size that may be. -/
structure Few (ls : List Sy.Lit) : Prop where
  len : ls.length ≤ 1000000
  args : ∀ l ∈ ls, l.2.2.length ≤ 1000000 ∧ ∀ t ∈ l.2.2, t.2.1.size ≤ maxLen
  all : (boundL ls).length ≤ 1000000000

set_option maxRecDepth 100000 in
set_option maxHeartbeats 8000000 in
theorem boundBy_in (n : Nat) (hn : 3 ≤ n) (ls : List Sy.Lit) (v : Value) (w : World) (hv : isLs w ls v) (hf : Few ls) :
    CallsIn Fence.wide n Try.prog 17 #[v] w fun e W' => e = .returned (.map (some w.heap.size)) ∧ (∃ D, W'.ownsMap Try.prog 9 (unitElem (H := Unit)) w.heap.size (boundL ls).length D ∧ SetOf D (boundL ls)) ∧ Below w.heap.size w W' := by
  obtain ⟨ao, cap, rfl⟩ := isLs_shape hv
  have HC := hide (isLs_cells hv).2
  have HF := hide hf
  have hlen := hf.len
  clear hv hf
  have h1 : 1 ≤ n := by omega
  have hmm := @run_makeMap Try.prog
  have B0 : Hid (Bb w ((w.alloc (.map #[] 0)).alloc (.cells #[.map (some w.heap.size)] 54)) [] []) := by
    refine ⟨?_, ⟨_, (World.ownsMap_made w _ _ _).alloc _, SetOf.nil⟩, ((Below.refl _ w).alloc (Nat.le_refl _) _).alloc (by simp) _, by simp, by simp⟩
    have := Bx.new (w.alloc (.map #[] 0)) #[.map (some w.heap.size)] 54
    simpa using this
  refine callsIn_of_wp_marks Try.func17 rfl trivial ?_ rfl
  simp only [Try.ntmps17, List.size_toArray, List.length_cons, List.length_nil, Nat.reduceAdd, Nat.reduceSub, Array.replicate_succ, Array.replicate_zero, List.push_toArray, List.append_toArray, List.nil_append, List.cons_append]
  gi_wp2
  clear hmm
  refine wpIn_loop (fun a W => ∃ (k : Nat) (u5 u6 u11 u12 u13 u14 u15 u16 u17 u18 u19 u20 u21 u22 u23 u24 : Value) (dl : List Nat), k ≤ ls.length ∧ a = { tmps := #[.slice ao ls.length cap, undef, .map none, .pointer (some ⟨w.heap.size + 1, 0, none⟩), undef, u5, u6, .map (some w.heap.size), .slice ao ls.length cap, .int .i64 (ls.length : Int), .int .i64 (k : Int), u11, u12, u13, u14, u15, u16, u17, u18, u19, u20, u21, u22, u23, u24, undef], defers := marks dl } ∧ Hid (Bb w W (boundL (ls.take k)) dl)) (fun a _ => ls.length - (intOf (a.tmps.getD 10 undef)).toNat) ?start ?round
  case start => exact ⟨0, _, _, _, _, _, _, _, _, _, _, _, _, _, _, _, _, [], Nat.zero_le _, rfl, B0⟩
  case round =>
    rintro a W ⟨k, u5, u6, u11, u12, u13, u14, u15, u16, u17, u18, u19, u20, u21, u22, u23, u24, dl, hk, rfl, HB⟩
    clear B0
    by_cases hlt : k < ls.length
    · have hltI : (k : Int) < (ls.length : Int) := by omega
      obtain ⟨g, rfl, hc⟩ := HC.out (by omega)
      obtain ⟨va, hva, k0, k1, k2⟩ := hc k hlt
      have k0 := cell_below' k0 HB.out.below
      have k1 := cell_below' k1 HB.out.below
      have k2 := cell_below' k2 HB.out.below
      have HFa := HF.out.args _ (List.getElem_mem hlt)
      have HT := hide (TsB.of hva HFa.1)
      have HT2 := hide HFa.2
      have HBT := hide (boundL_take hlt)
      have HBL : Hid ((boundL (ls.take (k + 1))).length ≤ 1000000000) := Nat.le_trans (boundL_pre ls (k + 1)) HF.out.all
      obtain ⟨_, aov, capv, rfl⟩ := own_len hva
      clear hc hva HFa
      generalize ls[k] = l at *
      by_cases h1k : l.1 = 1
      · rw [h1k] at k0
        rw [if_pos h1k] at HBT
        clear h1k
        have HB2 := hide ((HB.out.alloc (.cells #[.int .i64 1, .string l.2.1, .slice aov l.2.2.length capv] 29)).alloc (.cells #[.slice aov l.2.2.length capv] 27))
        gi_wp2
        refine ⟨trivial, ?_⟩
        refine (vars_in (n - 1) _ _ _ _).mono ?_
        rintro e w' ⟨rfl, rfl⟩
        have cB : (((W.alloc (.cells #[.int .i64 1, .string l.2.1, .slice aov l.2.2.length capv] 29)).alloc (.cells #[.slice aov l.2.2.length capv] 27))).cell? ⟨W.heap.size + 1, 0, none⟩ = some (.slice aov l.2.2.length capv) := by
          exact cell_two W _ _ _
        have hsz : (((W.alloc (.cells #[.int .i64 1, .string l.2.1, .slice aov l.2.2.length capv] 29)).alloc (.cells #[.slice aov l.2.2.length capv] 27))).heap.size = W.heap.size + 2 := by simp
        have hWs := HB.out.below.size
        have hWb := HB.out.box.lt
        have hdl : Hid (∀ D ∈ dl, D < W.heap.size) := fun D hD => (Array.getElem?_eq_some_iff.1 (HB.out.ds D hD).2).1
        clear HB k0 k1 k2
        gi_wp2
        generalize ((W.alloc (.cells #[.int .i64 1, .string l.2.1, .slice aov l.2.2.length capv] 29)).alloc (.cells #[.slice aov l.2.2.length capv] 27)) = W1 at *
        refine wpIn_rangeFunc_ownG rfl h1 (gf := 37) (lb := #[.pointer (some ⟨W.heap.size + 1, 0, none⟩)]) rfl trivial (enters_of Try.func37 (by kernel_rfl) rfl)
          (vars_stops (n - 1) (by omega) (W.heap.size + 1) w.heap.size _ l.2.2 HT2.out W1 (by omega) (by omega) cB (HT.out.below HB2.out.below)) belowK_t (belowK_b (by omega)) (Below.refl _ _) (fun _ => rfl)
          (fun pre X => Hid (Bb w X (boundL (ls.take k) ++ pre) dl)) (fun _ _ _ => False)
          (fun s A B row hs hg hr => hs.out.grown hg (z := W1.heap.size) (by omega) (fun D hD => by have := hdl.out D hD; omega) (fun r e => (hr r e).1))
          (fun _ _ _ _ _ hs _ _ => hs)
          (by rw [List.append_nil]; exact HB2)
          (fun x => { tmps := #[.slice (some ⟨g, 0, none⟩) ls.length cap, undef, .map none, .pointer (some ⟨w.heap.size + 1, 0, none⟩), undef, .pointer (some ⟨W.heap.size, 0, none⟩), .string x.1, .map (some w.heap.size), .slice (some ⟨g, 0, none⟩) ls.length cap, .int .i64 (ls.length : Int), .int .i64 (k : Int), .bool true, .pointer (some ⟨g, k * 3, none⟩), .agg #[.int .i64 1, .string l.2.1, .slice aov l.2.2.length capv], .pointer (some ⟨W.heap.size, 0, none⟩), .int .i64 1, .bool false, .pointer (some ⟨W.heap.size, 2, none⟩), .slice aov l.2.2.length capv, .func (.func 37) #[] #[.pointer (some ⟨W.heap.size + 1, 0, none⟩)], .string x.1, u21, u22, u23, u24, undef], defers := [] }) ?assign ?body ?done ?stop
        case assign =>
          intro l' x X K hK
          have hsem := @Oper.semAt_some
          gi_wp2
          exact hK
        case body =>
          rintro l' pre x X HI hlt2
          have hsem := @Oper.semAt_some
          obtain ⟨D, hown, hset⟩ := HI.out.map
          have c3 := HI.out.box.c 0
          have hN : (boundL (ls.take k) ++ pre).length < maxLen := by
            have h1 := HBL.out
            rw [HBT.out, List.length_append] at h1
            rw [List.length_append]
            simp only [maxLen]
            omega
          have HS := hide hset
          have HI2 := hide HI.out
          have HOWN := hide hown
          clear hset HI
          gi_wp2_with (gi_at_mapUpdate; refine wpListIn_mapUpdate_own _ rfl _ _ _ 54 rfl 9 78 (Maps.string_keyed Try.underlying9) Try.underlying54 _ w.heap.size _ D rfl HOWN.out hN _ _ _ rfl rfl (WideMaps.keyOf_string_mk Try.underlying9 x.2) (.agg []) [] unitElem_mk ?_; intro w1 hown1 hgrow1)
          obtain ⟨es, ck, hh, _⟩ := HOWN.out
          have hB1 : Below w.heap.size w w1 := HI2.out.below.grown hgrow1 HI2.out.below.size (fun k e => by cases e; exact Nat.le_refl _)
          refine ⟨KeepsFrom.of_grownBy hgrow1 (fun j e => by cases e; omega), (Below.refl _ X).grown hgrow1 HI2.out.below.size (fun k e => by cases e; exact Nat.le_refl _), ?_⟩
          have hblk : ∀ j, j < X.heap.size → j ≠ w.heap.size → w1.heap[j]? = X.heap[j]? := fun j hj hne => hgrow1.block j hj (fun e => by cases e; exact hne rfl)
          refine ⟨(hblk _ HI2.out.box.lt (by omega)).trans HI2.out.box, ⟨D.put (.string x.1.data.toList) (.agg []), ?_, by rw [← List.append_assoc]; exact HS.out.put x (.agg [])⟩, hB1, fun E hE => ⟨(HI2.out.ds E hE).1, ?_⟩, HI2.out.nd⟩
          · rw [← List.append_assoc, List.length_append]
            exact hown1
          · have hE2 := (HI2.out.ds E hE).2
            have hl : E < X.heap.size := (Array.getElem?_eq_some_iff.1 hE2).1
            refine (hblk E hl (fun e => ?_)).trans hE2
            subst e
            rw [hE2] at hh
            cases hh
        case done =>
          rintro D ys X hD rfl HI hK
          gi_wp2
          refine ⟨⟨k + 1, _, _, _, _, _, _, _, _, _, _, _, _, _, _, _, _, D :: dl, by omega, rfl, ?_⟩, by simp [intOf]; omega⟩
          rw [HBT.out]
          refine ⟨HI.out.box, HI.out.map, HI.out.below, ?_, ?_⟩
          · intro E hE
            rcases List.mem_cons.1 hE with rfl | hE
            · exact ⟨by omega, hK⟩
            · exact HI.out.ds E hE
          · refine List.nodup_cons.2 ⟨fun hE => ?_, HI.out.nd⟩
            have := hdl.out D hE
            omega
        case stop =>
          rintro D c pre X _ _ h _
          exact h.elim
      · have g1 : (l.1 != 1) = true := by simpa using h1k
        rw [if_neg h1k, List.append_nil] at HBT
        have HB2 := hide (HB.out.alloc (.cells #[.int .i64 l.1, .string l.2.1, .slice aov l.2.2.length capv] 29))
        clear h1k HB
        gi_wp2
        refine ⟨⟨k + 1, _, _, _, _, _, _, _, _, _, _, _, _, _, _, _, _, dl, by omega, rfl, ?_⟩, by simp [intOf]; omega⟩
        rw [HBT.out]
        exact HB2
    · have hke : k = ls.length := by omega
      have hkI : ¬ (k : Int) < (ls.length : Int) := by omega
      have c3 := HB.out.box.c 0
      have hta : ls.take k = ls := by rw [hke, List.take_length]
      rw [hta] at HB
      clear hta hke
      gi_wp2
      refine leaves_marks dl W (fun D hD => (HB.out.ds D hD).2) HB.out.nd (fun W' hW' => ?_)
      refine ⟨_, results_tmp rfl _ _ _, ?_⟩
      obtain ⟨D, h1, h2⟩ := HB.out.map
      have hnd : ¬ w.heap.size ∈ dl := fun hE => by
        have h3 := (HB.out.ds _ hE).2
        obtain ⟨es, ck, hh, _⟩ := h1
        rw [hh] at h3
        cases h3
      exact ⟨rfl, ⟨D, ownsMap_fr h1 hW' hnd, h2⟩, HB.out.below.trans (hW'.below (fun k hk => (HB.out.ds k hk).1) HB.out.below.size)⟩
end Go.Proofs.Ytienpejlfjhnmaa.Ck
namespace Go.Proofs.Ytienpejlfjhnmaa.Ck
open Go.RowKit Go.Shelf
open Vl (Tm Ts Fr)
open Sy

/-- What allIn has in memory. -/
structure As (w X : World) (b N : Nat) (D : DataW Unit) (r : Bool) : Prop where
  box : Bx X w.heap.size 54 #[.map (some b)]
  res : Bx X (w.heap.size + 1) 4 #[.bool r]
  own : X.ownsMap Try.prog 9 (unitElem (H := Unit)) b N D
  below : Below w.heap.size w X
theorem As.fr {w X X' : World} {b N : Nat} {D : DataW Unit} {r : Bool} (h : As w X b N D r) {F : Nat → Prop} (hf : Fr F X X') (hF : ∀ k, k < w.heap.size + 2 → F k → False) (hb : b < w.heap.size) : As w X' b N D r :=
  ⟨h.box.fr hf (hF _ (by omega)), h.res.fr hf (hF _ (by omega)), ownsMap_fr h.own hf (hF _ (by omega)), h.below.trans (hf.below (fun k hk => by
    by_cases hl : k < w.heap.size
    · exact (hF k (by omega) hk).elim
    · omega) h.below.size)⟩
theorem As.grown {w A B : World} {b N : Nat} {D : DataW Unit} {r : Bool} (h : As w A b N D r) (hb : b < w.heap.size) {row : Option Nat} (hg : A.grownBy B row) (hr : ∀ r, row = some r → w.heap.size + 2 ≤ r) : As w B b N D r :=
  h.fr (F := fun k => row = some k) (Vl.Fr.of_grown hg (fun k e => e)) (fun k hk e => by have := hr k e; omega) hb
theorem As.alloc {w X : World} {b N : Nat} {D : DataW Unit} {r : Bool} (h : As w X b N D r) (hb : b < w.heap.size) (o : Obj) : As w (X.alloc o) b N D r := h.fr (F := fun _ => False) ((Fr.refl _ _).alloc o) (fun _ _ e => e) hb
theorem As.set {w X : World} {b N : Nat} {D : DataW Unit} {r : Bool} (h : As w X b N D r) (hb : b < w.heap.size) (s : Bool) : As w (X.setCell ⟨w.heap.size + 1, 0, none⟩ (.bool s)) b N D s := by
  have hf : Fr (fun k => k = w.heap.size + 1) X (X.setCell ⟨w.heap.size + 1, 0, none⟩ (.bool s)) := Vl.Fr.one X _ 0 _
  exact ⟨h.box.fr hf (by omega), h.res.set 0 _, ownsMap_fr h.own hf (by omega), h.below.setCell (p := ⟨w.heap.size + 1, 0, none⟩) (by show w.heap.size ≤ w.heap.size + 1; omega) _⟩

set_option maxRecDepth 100000 in
set_option maxHeartbeats 8000000 in
theorem allIn_in (n : Nat) (hn : 3 ≤ n) (b N : Nat) (D : DataW Unit) (S : List Nm) (hset : SetOf D S) (ts : List Tm) (v : Value) (w : World) (hown : w.ownsMap Try.prog 9 (unitElem (H := Unit)) b N D) (hv : isTs w ts v) (hl : ts.length ≤ 1000000) (hsz : ∀ t ∈ ts, t.2.1.size ≤ maxLen) :
    CallsIn Fence.wide n Try.prog 18 #[.map (some b), v] w fun e W' => e = .returned (.bool ((varsT ts).all (inS S))) ∧ Below w.heap.size w W' := by
  have HT := hide (TsB.of hv hl)
  obtain ⟨_, ao, cap, rfl⟩ := own_len hv
  have hb := hown.lt
  have HS := hide hset
  have HZ := hide hsz
  have h1 : 1 ≤ n := by omega
  have A0 : Hid (As w ((w.alloc (.cells #[.map (some b)] 54)).alloc (.cells #[.bool false] 4)) b N D false) := by
    refine ⟨(Bx.new w _ _).below (Lx.below_box _ _), ?_, (hown.alloc _).alloc _, ((Below.refl _ w).alloc (Nat.le_refl _) _).alloc (by simp) _⟩
    have := Bx.new (w.alloc (.cells #[.map (some b)] 54)) #[.bool false] 4
    rw [World.size_alloc] at this
    exact this
  clear hv hset hsz hown
  refine callsIn_of_wp_marks Try.func18 rfl trivial ?_ rfl
  simp only [Try.ntmps18, List.size_toArray, List.length_cons, List.length_nil, Nat.reduceAdd, Nat.reduceSub, Array.replicate_succ, Array.replicate_zero, List.push_toArray, List.append_toArray, List.nil_append, List.cons_append]
  gi_wp2
  refine ⟨trivial, ?_⟩
  refine (vars_in (n - 1) _ _ _ _).mono ?_
  rintro e w' ⟨rfl, rfl⟩
  have A1 := hide (A0.out.alloc hb (.cells #[.slice ao ts.length cap] 27))
  have cB := cell_two (w.alloc (.cells #[.map (some b)] 54)) (.cells #[.bool false] 4) (.slice ao ts.length cap) 27
  rw [World.size_alloc] at cB
  have hszW : (((w.alloc (.cells #[.map (some b)] 54)).alloc (.cells #[.bool false] 4)).alloc (.cells #[.slice ao ts.length cap] 27)).heap.size = w.heap.size + 3 := by simp
  clear A0
  gi_wp2
  generalize (((w.alloc (.cells #[.map (some b)] 54)).alloc (.cells #[.bool false] 4)).alloc (.cells #[.slice ao ts.length cap] 27)) = W1 at *
  refine wpIn_rangeFunc_ownG rfl h1 (gf := 37) (lb := #[.pointer (some ⟨w.heap.size + 1 + 1, 0, none⟩)]) rfl trivial (enters_of Try.func37 (by kernel_rfl) rfl)
    (vars_stops (n - 1) (by omega) (w.heap.size + 1 + 1) w.heap.size _ ts HZ.out W1 (by omega) (by omega) cB (HT.out.below A1.out.below)) belowK_t (belowK_b (by omega)) (Below.refl _ _) (fun _ => rfl)
    (fun pre X => Hid (As w X b N D false) ∧ pre.all (inS S) = true) (fun c pre X => c = .ret ∧ Hid (As w X b N D false) ∧ pre.all (inS S) = false)
    (fun s A B row hs hg hr => ⟨hs.1.out.grown hb hg (fun r e => by have := (hr r e).1; omega), hs.2⟩)
    (fun c s A B row hs hg hr => ⟨hs.1, hs.2.1.out.grown hb hg (fun r e => by have := (hr r e).1; omega), hs.2.2⟩)
    ⟨A1, rfl⟩
    (fun x => { tmps := #[.map (some b), .slice ao ts.length cap, .pointer (some ⟨w.heap.size, 0, none⟩), undef, .pointer (some ⟨w.heap.size + 1, 0, none⟩), .string x.1, undef, undef, .slice ao ts.length cap, .func (.func 37) #[] #[.pointer (some ⟨w.heap.size + 1 + 1, 0, none⟩)], .string x.1, undef, undef, undef, undef, undef, undef, undef, undef], defers := [] }) ?assign ?body ?done ?stop
  case assign =>
    intro l' x X K hK
    have hsem := @Oper.semAt_some
    gi_wp2
    exact hK
  case body =>
    rintro l' pre x X ⟨HI, hp⟩ hlt2
    have hsem := @Oper.semAt_some
    have c0 := HI.out.box.c 0
    have A2 := hide fun o => HI.out.alloc hb o
    have c1 := fun o => (A2.out o).res.c 0
    have f1 := fun o => (A2.out o).res.f 0
    have hh := HS.out.2 x
    have HOWN := hide HI.out.own
    have hXs := HI.out.below.size
    have hXr := HI.out.res.lt
    simp only [List.getElem?_toArray, List.getElem?_cons_zero] at c1
    cases hx : inS S x
    · rw [hx] at hh
      have HP : Hid ((pre ++ [x]).all (inS S) = false) := by show _ = _; rw [List.all_append]; simp [hx]
      clear hx
      gi_wp2_with (gi_at_lookup; refine wpListIn_lookup_own_unit _ rfl _ _ 54 rfl 9 78 (Maps.string_keyed Try.underlying9) Try.underlying54 (by kernel_rfl) b N D rfl HOWN.out _ _ rfl (WideMaps.keyOf_string_mk Try.underlying9 x.2) ?_; rw [hh])
      exact ⟨((KeepsOthers.setCell _ _ _).trans (KeepsOthers.alloc _ _)).from _, rfl, (HI.out.set hb false).alloc hb _, HP.out⟩
    · rw [hx] at hh
      have HP : Hid ((pre ++ [x]).all (inS S) = true) := by show _ = _; rw [List.all_append, hp]; simp [hx]
      clear hx
      gi_wp2_with (gi_at_lookup; refine wpListIn_lookup_own_unit _ rfl _ _ 54 rfl 9 78 (Maps.string_keyed Try.underlying9) Try.underlying54 (by kernel_rfl) b N D rfl HOWN.out _ _ rfl (WideMaps.keyOf_string_mk Try.underlying9 x.2) ?_; rw [hh])
      exact ⟨(KeepsOthers.alloc _ _).from _, (Below.refl _ X).alloc hXs _, A2.out _, HP.out⟩
  case done =>
    rintro E ys X hD rfl ⟨HI, hp⟩ hK
    have c1 := HI.out.res.c 0
    have f1 := HI.out.res.f 0
    have HA := hide (HI.out.set hb true)
    have hK2 : Hid ((X.setCell ⟨w.heap.size + 1, 0, none⟩ (.bool true)).heap[E]? = some (.deferred (some []))) := (KeepsOthers.setCell X ⟨w.heap.size + 1, 0, none⟩ (.bool true)).same E _ hK rfl
    gi_wp2
    refine leaves_marks [E] _ (fun e he => by rw [List.mem_singleton.1 he]; exact hK2.out) (by simp) (fun W' hW' => ?_)
    have hA := HA.out.fr hW' (fun k hk e => by have := List.mem_singleton.1 e; omega) hb
    have hc := hA.res.c 0
    refine ⟨.bool true, by simp at hc; simp [results, Try.f18, go_sem, hc], ?_, hA.below⟩
    rw [hp]
  case stop =>
    rintro E c pre X hD hpre ⟨rfl, HI, hp⟩ hK
    gi_wp2
    refine leaves_marks [E] _ (fun e he => by rw [List.mem_singleton.1 he]; exact hK) (by simp) (fun W' hW' => ?_)
    have hA := HI.out.fr hW' (fun k hk e => by have := List.mem_singleton.1 e; omega) hb
    have hc := hA.res.c 0
    refine ⟨.bool false, by simp at hc; simp [results, Try.f18, go_sem, hc], ?_, hA.below⟩
    obtain ⟨q, hq⟩ := hpre
    rw [← hq, List.all_append, hp]
    rfl
end Go.Proofs.Ytienpejlfjhnmaa.Ck
namespace Go.Proofs.Ytienpejlfjhnmaa.Ck
open Go.RowKit
open Vl (Tm Ts Fr)
open Sy

def needK (k : Int) : Bool := decide (2 ≤ k) && decide (k ≤ 6)
theorem needs_any (k : Int) (w : World) : Calls Try.prog 19 #[.int .i64 k] w fun e w' => e = .returned (.bool (needK k)) ∧ w' = w := by
  by_cases h2 : k = 2
  · subst h2
    go_enter Try.func19, Try.ntmps19
    go_wp2
    go_ret
    exact ⟨rfl, rfl⟩
  by_cases h3 : k = 3
  · subst h3
    go_enter Try.func19, Try.ntmps19
    go_wp2
    go_ret
    exact ⟨rfl, rfl⟩
  by_cases h4 : k = 4
  · subst h4
    go_enter Try.func19, Try.ntmps19
    go_wp2
    go_ret
    exact ⟨rfl, rfl⟩
  by_cases h5 : k = 5
  · subst h5
    go_enter Try.func19, Try.ntmps19
    go_wp2
    go_ret
    exact ⟨rfl, rfl⟩
  by_cases h6 : k = 6
  · subst h6
    go_enter Try.func19, Try.ntmps19
    go_wp2
    go_ret
    exact ⟨rfl, rfl⟩
  · have hn : needK k = false := by
      unfold needK
      rw [Bool.and_eq_false_iff]
      by_cases hk : 2 ≤ k
      · right; simp; omega
      · left; simpa using hk
    have g2 : (k == 2) = false := by simpa using h2
    have g3 : (k == 3) = false := by simpa using h3
    have g4 : (k == 4) = false := by simpa using h4
    have g5 : (k == 5) = false := by simpa using h5
    have g6 : (k == 6) = false := by simpa using h6
    rw [hn]
    go_enter Try.func19, Try.ntmps19
    go_wp2
    go_ret
    exact ⟨rfl, rfl⟩

/-- Is a rule safe? -/
def safeR (q : Rul) : Bool := (varsT q.1.2.2).all (inS (boundL q.2)) && q.2.all fun l => !needK l.1 || (varsT l.2.2).all (inS (boundL q.2))
structure FewR (q : Rul) : Prop where
  head : q.1.2.2.length ≤ 1000000 ∧ ∀ t ∈ q.1.2.2, t.2.1.size ≤ maxLen
  body : Few q.2

theorem all_take {α : Type} {p : α → Bool} {ls : List α} {k : Nat} (h : k < ls.length) : (ls.take (k + 1)).all p = ((ls.take k).all p && p ls[k]) := by
  rw [List.take_succ_eq_append_getElem h, List.all_append]
  simp
theorem all_false {α : Type} {p : α → Bool} {ls : List α} {k : Nat} (h : k < ls.length) (hp : p ls[k] = false) : ls.all p = false := by
  rw [List.all_eq_false]
  exact ⟨_, List.getElem_mem h, by rw [hp]; decide⟩

set_option maxRecDepth 10000 in
set_option maxHeartbeats 4000000 in
theorem safe_any {w : World} {q : Rul} {y : Value} (h : isRul w q y) (hf : FewR q) :
    Calls Try.prog 7 #[y] w fun e w' => e = .returned (.bool (safeR q)) ∧ Below w.heap.size w w' := by
  obtain ⟨⟨hk, hnm, ht⟩, ls⟩ := q
  obtain ⟨va, vb, rfl, hva, hvb⟩ := h
  simp only at hva hvb ⊢
  obtain ⟨_, aoa, capa, rfl⟩ := own_len hva
  obtain ⟨aob, capb, rfl⟩ := isLs_shape hvb
  have hlen := hf.body.len
  have HF := hide hf
  have HVA := hide hva
  have HVB := hide hvb
  have HC := hide (isLs_cells hvb).2
  have hx0 := Lx.below_box w (.cells #[.int .i64 hk, .string hnm, .slice aoa ht.length capa, .slice aob ls.length capb] 32)
  have HB0 := hide hx0
  have HBd := hide (callsIn_wide.1 (boundBy_in 3 (Nat.le_refl _) ls _ (w.alloc (.cells #[.int .i64 hk, .string hnm, .slice aoa ht.length capa, .slice aob ls.length capb] 32)) (isLs_below hvb hx0) hf.body))
  have B0 := hide (Bx.new w #[.int .i64 hk, .string hnm, .slice aoa ht.length capa, .slice aob ls.length capb] 32)
  clear hva hvb hf hx0
  go_enter Try.func7, Try.ntmps7
  go_wp2_with fail
  refine Calls.mono HBd.out ?_
  rintro e w1 ⟨rfl, ⟨D, hown, hset⟩, hb1⟩
  have HB1 := hide (HB0.out.trans (hb1.mono HB0.out.size))
  have B1 := hide (B0.out.below hb1)
  have HO := hide hown
  have HS := hide hset
  generalize hbk : (w.alloc (.cells #[.int .i64 hk, .string hnm, .slice aoa ht.length capa, .slice aob ls.length capb] 32)).heap.size = b at *
  have HA : Hid (∀ (ts : List Tm) (v : Value) (W : World), Below w1.heap.size w1 W → isTs W ts v → ts.length ≤ 1000000 → (∀ t ∈ ts, t.2.1.size ≤ maxLen) → Calls Try.prog 18 #[.map (some b), v] W fun e W' => e = .returned (.bool ((varsT ts).all (inS (boundL ls)))) ∧ Below W.heap.size W W') := fun ts v W hW hv hl hsz =>
    callsIn_wide.1 (allIn_in 3 (Nat.le_refl _) b _ D _ HS.out ts v W (ownsMap_fr HO.out (Fr.of_below (F := fun _ => False) hW) id) hv hl hsz)
  obtain ⟨⟨c0, c1, c2, c3⟩, _, _, _, _⟩ := B1.out.four
  clear hown hset hb1 HBd HB0 B0 HO HS
  have HA1 := hide (HA.out ht _ w1 (Below.refl _ _) (isTs_below HVA.out HB1.out) HF.out.head.1 HF.out.head.2)
  have HSR : Hid (safeR ((hk, hnm, ht), ls) = ((varsT ht).all (inS (boundL ls)) && ls.all fun l => !needK l.1 || (varsT l.2.2).all (inS (boundL ls)))) := rfl
  obtain ⟨p, hp⟩ : ∃ p : Sy.Lit → Bool, p = fun l => !needK l.1 || (varsT l.2.2).all (inS (boundL ls)) := ⟨_, rfl⟩
  rw [← hp] at HSR
  have HP := hide hp
  clear hp
  go_wp2_with fail
  refine Calls.mono HA1.out ?_
  rintro e w2 ⟨rfl, hb2⟩
  have HB2 := hide (HB1.out.trans (hb2.mono HB1.out.size))
  have HB12 := hide hb2
  have B2 := hide (B1.out.below hb2)
  clear c0 c1 c2 c3 hb2 HA1 B1
  obtain ⟨⟨c0, c1, c2, c3⟩, _, _, _, _⟩ := B2.out.four
  cases hh : (varsT ht).all (inS (boundL ls))
  · rw [hh, Bool.false_and] at HSR
    go_wp2_with fail
    go_ret
    rw [HSR.out]
    exact ⟨rfl, HB2.out⟩
  · rw [hh, Bool.true_and] at HSR
    clear hh
    go_wp2_with fail
    go_loopw [18] (fun iv wr => ∃ i : Nat, iv = .int .i64 i ∧ i ≤ ls.length ∧ Hid ((ls.take i).all p = true) ∧ Hid (Below w.heap.size w wr) ∧ Hid (Below w1.heap.size w1 wr)) (fun iv _ => ls.length - (intOf iv).toNat)
    case atStart => exact ⟨0, rfl, Nat.zero_le _, rfl, HB2, HB12⟩
    case round =>
      obtain ⟨i, rfl, hi, HI, HBw, HB1w⟩ := hrel
      by_cases hlt : i < ls.length
      · have hltI : (i : Int) < (ls.length : Int) := by omega
        obtain ⟨g, rfl, hc⟩ := HC.out (by omega)
        obtain ⟨u, hu, k0, k1, k2⟩ := hc i hlt
        have k0 := cell_below' k0 HBw.out
        have k1 := cell_below' k1 HBw.out
        have k2 := cell_below' k2 HBw.out
        have HAT := hide (all_take (p := p) hlt)
        have HAF : Hid (p ls[i] = false → ls.all p = false) := fun hp => all_false hlt hp
        have hfa := HF.out.body.args _ (List.getElem_mem hlt)
        have HPP : Hid (p ls[i] = (!needK ls[i].1 || (varsT ls[i].2.2).all (inS (boundL ls)))) := by show _ = _; rw [HP.out]
        have HNB := hide (needs_any ls[i].1)
        obtain ⟨_, aou, capu, rfl⟩ := own_len hu
        have HAA : Hid (∀ W, Below wr.heap.size wr W → Calls Try.prog 18 #[.map (some b), .slice aou ls[i].2.2.length capu] W fun e W' => e = .returned (.bool ((varsT ls[i].2.2).all (inS (boundL ls)))) ∧ Below W.heap.size W W') := fun W hW =>
          HA.out ls[i].2.2 _ W (HB1w.out.trans (hW.mono HB1w.out.size)) (isTs_below hu (HBw.out.trans (hW.mono HBw.out.size))) hfa.1 hfa.2
        clear hc hu hfa c0 c1 c2 c3
        generalize ls[i] = l at *
        have hXb := hide fun o => Lx.below_box wr o
        cases hnk : needK l.1
        · rw [hnk] at HNB HPP
          simp only [Bool.not_false, Bool.true_or] at HPP
          go_wp2_with fail
          refine Calls.mono (HNB.out _) ?_
          rintro e w3 ⟨rfl, hw3⟩
          have hw3' := hw3.symm
          subst hw3'
          clear hw3
          go_wp2_with fail
          go_roundw
          case rel => exact ⟨i + 1, by go_num, by omega, by rw [HAT.out, HI.out, HPP.out]; rfl, HBw.out.trans ((hXb.out _).mono HBw.out.size), HB1w.out.trans ((hXb.out _).mono HB1w.out.size)⟩
          case measure => simp [intOf]; omega
        · rw [hnk] at HNB HPP
          simp only [Bool.not_true, Bool.false_or] at HPP
          go_wp2_with fail
          refine Calls.mono (HNB.out _) ?_
          rintro e w3 ⟨rfl, hw3⟩
          have hw3' := hw3.symm
          subst hw3'
          clear hw3
          go_wp2_with fail
          refine Calls.mono (HAA.out _ (hXb.out _)) ?_
          rintro e w4 ⟨rfl, hb4⟩
          have HB4 := hide (HBw.out.trans ((hXb.out _).trans (hb4.mono (hXb.out _).size) |>.mono HBw.out.size))
          have HB4' := hide (HB1w.out.trans ((hXb.out _).trans (hb4.mono (hXb.out _).size) |>.mono HB1w.out.size))
          clear hb4
          cases hq : (varsT l.2.2).all (inS (boundL ls))
          · rw [hq] at HPP
            go_wp2_with fail
            go_ret
            rw [HSR.out, HAF.out HPP.out]
            exact ⟨rfl, HB4.out⟩
          · rw [hq] at HPP
            go_wp2_with fail
            go_roundw
            case rel => exact ⟨i + 1, by go_num, by omega, by rw [HAT.out, HI.out, HPP.out]; rfl, HB4, HB4'⟩
            case measure => simp [intOf]; omega
      · have hltI : ¬ (i : Int) < (ls.length : Int) := by omega
        have hie : ls.take i = ls := by rw [show i = ls.length by omega, List.take_length]
        rw [hie] at HI
        clear hie
        go_wp2_with fail
        go_ret
        rw [HSR.out, HI.out]
        exact ⟨rfl, HBw.out⟩
end Go.Proofs.Ytienpejlfjhnmaa.Ck
namespace Go.Proofs.Ytienpejlfjhnmaa.Ck
open Go.RowKit
open Lx (tx)
open Vl (Tm Ts Fr)
open Sy

/-- A term is that variable; a literal binds it; a body does. -/
def bindT (nm : ByteArray) (t : Tm) : Bool := decide (t.1 = 1) && (t.2.1.toList == nm.toList)
def bindL (nm : ByteArray) (l : Sy.Lit) : Bool := decide (l.1 = 1) && l.2.2.any (bindT nm)
def bindsB (ls : List Sy.Lit) (nm : ByteArray) : Bool := ls.any (bindL nm)
theorem any_take {α : Type} {p : α → Bool} {ls : List α} {k : Nat} (h : k < ls.length) : (ls.take (k + 1)).any p = ((ls.take k).any p || p ls[k]) := by
  rw [List.take_succ_eq_append_getElem h, List.any_append]
  simp
theorem any_true {α : Type} {p : α → Bool} {ls : List α} {k : Nat} (h : k < ls.length) (hp : p ls[k] = true) : ls.any p = true :=
  List.any_eq_true.2 ⟨_, List.getElem_mem h, hp⟩

set_option maxRecDepth 10000 in
set_option maxHeartbeats 8000000 in
theorem binds_any {w : World} {q : Rul} {y : Value} (h : isRul w q y) (hf : FewR q) (nm : ByteArray) :
    Calls Try.prog 20 #[y, .string nm] w fun e w' => e = .returned (.bool (bindsB q.2 nm)) ∧ Below w.heap.size w w' := by
  obtain ⟨⟨hk, hnm, ht⟩, ls⟩ := q
  obtain ⟨va, vb, rfl, hva, hvb⟩ := h
  simp only at hva hvb ⊢
  obtain ⟨_, aoa, capa, rfl⟩ := own_len hva
  obtain ⟨aob, capb, rfl⟩ := isLs_shape hvb
  have hlen : ls.length ≤ 1000000 := hf.body.len
  have HF := hide hf
  obtain ⟨w1, hw1⟩ : ∃ w1, w.alloc (.cells #[.int .i64 hk, .string hnm, .slice aoa ht.length capa, .slice aob ls.length capb] 32) = w1 := ⟨_, rfl⟩
  have hx0 := Lx.below_box w (.cells #[.int .i64 hk, .string hnm, .slice aoa ht.length capa, .slice aob ls.length capb] 32)
  have B0 := Bx.new w #[.int .i64 hk, .string hnm, .slice aoa ht.length capa, .slice aob ls.length capb] 32
  rw [hw1] at hx0 B0
  have HB := hide hx0
  have HC := hide (isLs_cells (isLs_below hvb hx0)).2
  obtain ⟨⟨c0, c1, c2, c3⟩, _, _, _, _⟩ := B0.four
  clear hva hvb hf hx0 B0
  have HW := hide hw1
  go_enter Try.func20, Try.ntmps20
  go_wp2_with fail
  clear HW hw1
  go_loopw [5, 6] (fun iv _ wr => ∃ i : Nat, iv = .int .i64 i ∧ i ≤ ls.length ∧ Hid ((ls.take i).any (bindL nm) = false) ∧ wr = w1) (fun iv _ _ => ls.length - (intOf iv).toNat)
  case atStart => exact ⟨0, rfl, Nat.zero_le _, rfl, rfl⟩
  case round =>
    obtain ⟨i, rfl, hi, HI, hwr⟩ := hrel
    have hwr' := hwr.symm
    subst hwr'
    clear hwr
    by_cases hlt : i < ls.length
    · have hltI : (i : Int) < (ls.length : Int) := by omega
      obtain ⟨g, rfl, hc⟩ := HC.out (by omega)
      obtain ⟨u, hu, k0, k1, k2⟩ := hc i hlt
      have HAT := hide (any_take (p := bindL nm) hlt)
      have HAF : Hid (bindL nm ls[i] = true → ls.any (bindL nm) = true) := fun hp => any_true hlt hp
      have hfa := HF.out.body.args _ (List.getElem_mem hlt)
      have hts := TsB.of hu hfa.1
      clear hc hu
      generalize ls[i] = l at *
      obtain ⟨lk, ln, ts⟩ := l
      simp only at k0 k1 k2 hts hfa
      obtain ⟨aot, capt, rfl, htl, hct⟩ := hts
      by_cases hk1 : lk = 1
      · subst hk1
        have HL : Hid (bindL nm (1, ln, ts) = ts.any (bindT nm)) := by show _ = _; simp [bindL]
        clear hfa
        have HCT := hide hct
        clear hct
        go_wp2_with fail
        go_loopw [6] (fun jv wr => ∃ j : Nat, jv = .int .i64 j ∧ j ≤ ts.length ∧ Hid ((ts.take j).any (bindT nm) = false) ∧ wr = w1) (fun jv _ => ts.length - (intOf jv).toNat)
        case atStart => exact ⟨0, rfl, Nat.zero_le _, rfl, rfl⟩
        case round =>
          obtain ⟨j, rfl, hj, HJ, hwr⟩ := hrel
          have hwr' := hwr.symm
          subst hwr'
          clear hwr
          by_cases hjl : j < ts.length
          · have hjlI : (j : Int) < (ts.length : Int) := by omega
            obtain ⟨gt, offt, rfl, hgt, hc⟩ := HCT.out (by omega)
            obtain ⟨t0, t1, _⟩ := hc j hjl
            have HBT := hide (any_take (p := bindT nm) hjl)
            have HBF : Hid (bindT nm ts[j] = true → ts.any (bindT nm) = true) := fun hp => any_true hjl hp
            clear hc
            generalize ts[j] = t at *
            obtain ⟨tk, tn, tz⟩ := t
            simp only at t0 t1
            by_cases hk2 : tk = 1
            · subst hk2
              have HT0 : Hid (bindT nm (1, tn, tz) = (tn.toList == nm.toList)) := by show _ = _; simp [bindT]
              cases hq : (tn.toList == nm.toList)
              · have HT : Hid (bindT nm (1, tn, tz) = false) := HT0.out.trans hq
                go_wp2_with fail
                go_roundw
                case rel => exact ⟨j + 1, by go_num, by omega, by show _ = _; rw [HBT.out, HJ.out, HT.out]; rfl, by first | rfl | trivial⟩
                case measure => simp [intOf]; omega
              · have HT : Hid (bindT nm (1, tn, tz) = true) := HT0.out.trans hq
                go_wp2_with fail
                go_ret
                refine ⟨?_, HB.out⟩
                show _ = Ending.returned (.bool (ls.any (bindL nm)))
                rw [HAF.out (HL.out.trans (HBF.out HT.out))]
                rfl
            · have HT : Hid (bindT nm (tk, tn, tz) = false) := by show _ = _; simp [bindT, hk2]
              go_wp2_with fail
              go_roundw
              case rel => exact ⟨j + 1, by go_num, by omega, by show _ = _; rw [HBT.out, HJ.out, HT.out]; rfl, by first | rfl | trivial⟩
              case measure => simp [intOf]; omega
          · have hjlI : ¬ (j : Int) < (ts.length : Int) := by omega
            have hje : ts.take j = ts := by rw [show j = ts.length by omega, List.take_length]
            rw [hje] at HJ
            clear hje
            go_wp2_with fail
            go_roundw
            case rel => exact ⟨i + 1, by go_num, by omega, by show _ = _; rw [HAT.out, HI.out, HL.out, HJ.out]; rfl, by first | rfl | trivial⟩
            case measure => simp [intOf]; omega
      · have HL : Hid (bindL nm (lk, ln, ts) = false) := by show _ = _; simp [bindL, hk1]
        clear hfa hct
        go_wp2_with fail
        go_loopw [6] (fun jv wr => jv = .int .i64 0 ∧ wr = w1) (fun _ _ => 0)
        case atStart => exact ⟨rfl, rfl⟩
        case round =>
          obtain ⟨rfl, hwr⟩ := hrel
          have hwr' := hwr.symm
          subst hwr'
          clear hwr
          go_wp2_with fail
          go_roundw
          case rel => exact ⟨i + 1, by go_num, by omega, by show _ = _; rw [HAT.out, HI.out, HL.out]; rfl, by first | rfl | trivial⟩
          case measure => simp [intOf]; omega
    · have hltI : ¬ (i : Int) < (ls.length : Int) := by omega
      have hie : ls.take i = ls := by rw [show i = ls.length by omega, List.take_length]
      rw [hie] at HI
      clear hie
      go_wp2_with fail
      go_ret
      refine ⟨?_, HB.out⟩
      show _ = Ending.returned (.bool (ls.any (bindL nm)))
      rw [HI.out]
      rfl
end Go.Proofs.Ytienpejlfjhnmaa.Ck

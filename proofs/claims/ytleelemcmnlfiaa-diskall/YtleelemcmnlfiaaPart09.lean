/- The walk of the document's do, further: Remove, Move, and what is not there. The walks of the document's do (any change), Room, Name. The walk of a folder's clone. -/
import Derived.Test.YtleelemcmnlfiaaPart08
import Derived.Test.YtleelemcmnlfiaaPart05
namespace Go.Proofs.Ytleelemcmnlfiaa
open Go.RowKit

/-- Nothing has changed. -/
theorem Done.same {w w1 : World} {ao : Option Addr} {N cap : Nat} {zs : List Ent} {R : Nat → Prop} {fs : List Fl} (h : RF w (.slice ao N cap) zs R) (hb : Below w.heap.size w w1) (hf : zs.map Ent.fl = fs) : Done w w1 (.returned (.slice ao N cap)) R fs :=
  ⟨ao, N, cap, zs, rfl, (h.below hb).mono (fun _ hk => Or.inl hk) (ext_lt h.lt hb.size), hf, hb⟩

set_option maxHeartbeats 2000000 in
set_option maxRecDepth 20000 in
theorem rdo_cut_miss (v : Value) (zs : List Ent) (R : Nat → Prop) (n t : ByteArray) (k : Nat) (aod : Option Addr) (Ld capd : Nat) (zl zr : List Ent) (w : World) (h : RF w v zs R) (hh : MissE n zs zl zr) (hl : zs.length ≤ 100000000) :
    Calls Try.prog 39 #[v, .agg #[.int .i64 1, .string n, .string t, .int .i64 (k : Int), .slice aod Ld capd]] w fun e w' => Done w w' e R (ap (zs.map Ent.fl) (.cut n k)) := by
  obtain ⟨ao, cap, rfl, hao⟩ := h.shape
  have hb1 := bel_box w (.cells #[.int .i64 1, .string n, .string t, .int .i64 (k : Int), .slice aod Ld capd] 48)
  have hR1 := h.below hb1
  have HA : Hid (_) := at_miss _ zs R n zl zr _ hR1 hh (by omega)
  have q0 : (w.alloc (.cells #[.int .i64 1, .string n, .string t, .int .i64 (k : Int), .slice aod Ld capd] 48)).cell? ⟨w.heap.size, 0, none⟩ = some (.int .i64 1) := by rw [cell_of_row _ _ 0 _ _ _ (heap_alloc_new _ _)]; rfl
  have q1 : (w.alloc (.cells #[.int .i64 1, .string n, .string t, .int .i64 (k : Int), .slice aod Ld capd] 48)).cell? ⟨w.heap.size, 1, none⟩ = some (.string n) := by rw [cell_of_row _ _ 1 _ _ _ (heap_alloc_new _ _)]; rfl
  have HX : Hid (∀ w', Below w.heap.size w w' → Done w w' (.returned (.slice ao zs.length cap)) R (ap (zs.map Ent.fl) (.cut n k))) := by
    intro w' hb
    refine Done.same h hb ?_
    have hi := hh.miss
    simp only [ap, hi.lookE]
  have HB : Hid (_) := hb1
  generalize hw1 : w.alloc (.cells #[.int .i64 1, .string n, .string t, .int .i64 (k : Int), .slice aod Ld capd] 48) = w1 at *
  have hbn : ∀ nq, Below w1.heap.size w1 (w1.drewN nq) := fun nq => ⟨rfl, rfl, rfl, Nat.le_refl _, fun _ _ => rfl⟩
  clear hR1 hb1 h hl hao
  go_enter Try.func39, Try.ntmps39
  go_wp2_with (go_at_call 41; refine Calls.mono HA.out ?_; rintro e w' ⟨rfl, hw⟩; have hw' := hw.symm; subst hw')
  go_big_quiet (fail)
  go_wp2
  go_ret
  exact HX.out _ (HB.out.trans ((hbn nq).mono HB.out.size))

set_option maxHeartbeats 2000000 in
set_option maxRecDepth 20000 in
theorem rdo_rem_miss (v : Value) (zs : List Ent) (R : Nat → Prop) (n t : ByteArray) (sz : Int) (aod : Option Addr) (Ld capd : Nat) (zl zr : List Ent) (w : World) (h : RF w v zs R) (hh : MissE n zs zl zr) (hl : zs.length ≤ 100000000) :
    Calls Try.prog 39 #[v, .agg #[.int .i64 2, .string n, .string t, .int .i64 sz, .slice aod Ld capd]] w fun e w' => Done w w' e R (ap (zs.map Ent.fl) (.rem n)) := by
  obtain ⟨ao, cap, rfl, hao⟩ := h.shape
  have hb1 := bel_box w (.cells #[.int .i64 2, .string n, .string t, .int .i64 sz, .slice aod Ld capd] 48)
  have hR1 := h.below hb1
  have HA : Hid (_) := at_miss _ zs R n zl zr _ hR1 hh (by omega)
  have q0 : (w.alloc (.cells #[.int .i64 2, .string n, .string t, .int .i64 sz, .slice aod Ld capd] 48)).cell? ⟨w.heap.size, 0, none⟩ = some (.int .i64 2) := by rw [cell_of_row _ _ 0 _ _ _ (heap_alloc_new _ _)]; rfl
  have q1 : (w.alloc (.cells #[.int .i64 2, .string n, .string t, .int .i64 sz, .slice aod Ld capd] 48)).cell? ⟨w.heap.size, 1, none⟩ = some (.string n) := by rw [cell_of_row _ _ 1 _ _ _ (heap_alloc_new _ _)]; rfl
  have HX : Hid (∀ w', Below w.heap.size w w' → Done w w' (.returned (.slice ao zs.length cap)) R (ap (zs.map Ent.fl) (.rem n))) := by
    intro w' hb
    refine Done.same h hb ?_
    have hi := hh.miss
    simp only [ap, hi.delE]
  have HB : Hid (_) := hb1
  generalize hw1 : w.alloc (.cells #[.int .i64 2, .string n, .string t, .int .i64 sz, .slice aod Ld capd] 48) = w1 at *
  have hbn : ∀ nq, Below w1.heap.size w1 (w1.drewN nq) := fun nq => ⟨rfl, rfl, rfl, Nat.le_refl _, fun _ _ => rfl⟩
  clear hR1 hb1 h hl hao
  go_enter Try.func39, Try.ntmps39
  go_wp2_with (go_at_call 41; refine Calls.mono HA.out ?_; rintro e w' ⟨rfl, hw⟩; have hw' := hw.symm; subst hw')
  go_ret
  exact HX.out _ HB.out

set_option maxHeartbeats 2000000 in
set_option maxRecDepth 20000 in
theorem rdo_mov_miss (v : Value) (zs : List Ent) (R : Nat → Prop) (n t : ByteArray) (sz : Int) (aod : Option Addr) (Ld capd : Nat) (zl zr : List Ent) (w : World) (h : RF w v zs R) (hh : MissE n zs zl zr) (hl : zs.length ≤ 100000000) :
    Calls Try.prog 39 #[v, .agg #[.int .i64 3, .string n, .string t, .int .i64 sz, .slice aod Ld capd]] w fun e w' => Done w w' e R (ap (zs.map Ent.fl) (.mov n t)) := by
  obtain ⟨ao, cap, rfl, hao⟩ := h.shape
  have hb1 := bel_box w (.cells #[.int .i64 3, .string n, .string t, .int .i64 sz, .slice aod Ld capd] 48)
  have hR1 := h.below hb1
  have HA : Hid (_) := at_miss _ zs R n zl zr _ hR1 hh (by omega)
  have q0 : (w.alloc (.cells #[.int .i64 3, .string n, .string t, .int .i64 sz, .slice aod Ld capd] 48)).cell? ⟨w.heap.size, 0, none⟩ = some (.int .i64 3) := by rw [cell_of_row _ _ 0 _ _ _ (heap_alloc_new _ _)]; rfl
  have q1 : (w.alloc (.cells #[.int .i64 3, .string n, .string t, .int .i64 sz, .slice aod Ld capd] 48)).cell? ⟨w.heap.size, 1, none⟩ = some (.string n) := by rw [cell_of_row _ _ 1 _ _ _ (heap_alloc_new _ _)]; rfl
  have HX : Hid (∀ w', Below w.heap.size w w' → Done w w' (.returned (.slice ao zs.length cap)) R (ap (zs.map Ent.fl) (.mov n t))) := by
    intro w' hb
    refine Done.same h hb ?_
    have hi := hh.miss
    simp only [ap, hi.lookE]
  have HB : Hid (_) := hb1
  generalize hw1 : w.alloc (.cells #[.int .i64 3, .string n, .string t, .int .i64 sz, .slice aod Ld capd] 48) = w1 at *
  have hbn : ∀ nq, Below w1.heap.size w1 (w1.drewN nq) := fun nq => ⟨rfl, rfl, rfl, Nat.le_refl _, fun _ _ => rfl⟩
  clear hR1 hb1 h hl hao
  go_enter Try.func39, Try.ntmps39
  go_wp2_with (go_at_call 41; refine Calls.mono HA.out ?_; rintro e w' ⟨rfl, hw⟩; have hw' := hw.symm; subst hw')
  go_ret
  exact HX.out _ HB.out

set_option maxHeartbeats 2000000 in
set_option maxRecDepth 20000 in
theorem rdo_rem_hit (v : Value) (zs : List Ent) (R : Nat → Prop) (n t : ByteArray) (sz : Int) (aod : Option Addr) (Ld capd : Nat) (zl : List Ent) (z : Ent) (zr : List Ent) (w : World) (h : RF w v zs R) (hh : HitE n zs zl z zr) (hl : zs.length ≤ 100000000) :
    Calls Try.prog 39 #[v, .agg #[.int .i64 2, .string n, .string t, .int .i64 sz, .slice aod Ld capd]] w fun e w' => Done w w' e R (ap (zs.map Ent.fl) (.rem n)) := by
  obtain ⟨ao, cap, rfl, hao⟩ := h.shape
  have hb1 := bel_box w (.cells #[.int .i64 2, .string n, .string t, .int .i64 sz, .slice aod Ld capd] 48)
  have hR1 := h.below hb1
  have HA : Hid (_) := at_hit _ zs R n zl z zr _ hR1 hh (by omega)
  have q0 : (w.alloc (.cells #[.int .i64 2, .string n, .string t, .int .i64 sz, .slice aod Ld capd] 48)).cell? ⟨w.heap.size, 0, none⟩ = some (.int .i64 2) := by rw [cell_of_row _ _ 0 _ _ _ (heap_alloc_new _ _)]; rfl
  have q1 : (w.alloc (.cells #[.int .i64 2, .string n, .string t, .int .i64 sz, .slice aod Ld capd] 48)).cell? ⟨w.heap.size, 1, none⟩ = some (.string n) := by rw [cell_of_row _ _ 1 _ _ _ (heap_alloc_new _ _)]; rfl
  generalize hw1 : w.alloc (.cells #[.int .i64 2, .string n, .string t, .int .i64 sz, .slice aod Ld capd] 48) = w1 at *
  have HW : Hid (Calls Try.prog 51 #[.slice ao zs.length cap, .int .i64 (zl.length : Int)] w1 fun e w2 => ∃ ao2 N2 cap2, e = .returned (.slice ao2 N2 cap2) ∧ Hid (Done w w2 (.returned (.slice ao2 N2 cap2)) R (ap (zs.map Ent.fl) (.rem n)))) := by
    refine (without_any _ zs R zl z zr w1 hR1 hh.1 (by omega)).mono ?_
    rintro e w2 ⟨v2, rfl, hR2, hb2⟩
    obtain ⟨ao2, N2, cap2, rfl⟩ := own_slice hR2.row
    refine ⟨ao2, N2, cap2, rfl, ao2, N2, cap2, _, rfl, hR2.from hb1.size, ?_, hb1.trans (hb2.mono hb1.size)⟩
    have hi := hh.hit
    simp only [ap, hi.delE]
    simp
  clear hR1 hb1 h hl hao
  go_enter Try.func39, Try.ntmps39
  go_wp2_with (first
    | (go_at_call 41; refine Calls.mono HA.out ?_; rintro e w' ⟨rfl, hw⟩; have hw' := hw.symm; subst hw')
    | (go_at_call 51; refine Calls.mono HW.out ?_; rintro e w2 ⟨ao2, N2, cap2, rfl, HX⟩))
  go_ret
  exact HX.out

set_option maxHeartbeats 2000000 in
set_option maxRecDepth 20000 in
theorem rdo_mov_self (v : Value) (zs : List Ent) (R : Nat → Prop) (n : ByteArray) (sz : Int) (aod : Option Addr) (Ld capd : Nat) (zl : List Ent) (z : Ent) (zr : List Ent) (w : World) (h : RF w v zs R) (hh : HitE n zs zl z zr) (hl : zs.length ≤ 100000000) :
    Calls Try.prog 39 #[v, .agg #[.int .i64 3, .string n, .string n, .int .i64 sz, .slice aod Ld capd]] w fun e w' => Done w w' e R (ap (zs.map Ent.fl) (.mov n n)) := by
  obtain ⟨ao, cap, rfl, hao⟩ := h.shape
  have hb1 := bel_box w (.cells #[.int .i64 3, .string n, .string n, .int .i64 sz, .slice aod Ld capd] 48)
  have hR1 := h.below hb1
  have HA : Hid (_) := at_hit _ zs R n zl z zr _ hR1 hh (by omega)
  have q0 : (w.alloc (.cells #[.int .i64 3, .string n, .string n, .int .i64 sz, .slice aod Ld capd] 48)).cell? ⟨w.heap.size, 0, none⟩ = some (.int .i64 3) := by rw [cell_of_row _ _ 0 _ _ _ (heap_alloc_new _ _)]; rfl
  have q1 : (w.alloc (.cells #[.int .i64 3, .string n, .string n, .int .i64 sz, .slice aod Ld capd] 48)).cell? ⟨w.heap.size, 1, none⟩ = some (.string n) := by rw [cell_of_row _ _ 1 _ _ _ (heap_alloc_new _ _)]; rfl
  have q2 : (w.alloc (.cells #[.int .i64 3, .string n, .string n, .int .i64 sz, .slice aod Ld capd] 48)).cell? ⟨w.heap.size, 2, none⟩ = some (.string n) := by rw [cell_of_row _ _ 2 _ _ _ (heap_alloc_new _ _)]; rfl
  have HX : Hid (∀ w', Below w.heap.size w w' → Done w w' (.returned (.slice ao zs.length cap)) R (ap (zs.map Ent.fl) (.mov n n))) := by
    intro w' hb
    refine Done.same h hb ?_
    have hi := hh.hit
    simp only [ap, hi.lookE, if_true]
  have HB : Hid (_) := hb1
  have hnn : (n.toList == n.toList) = true := by simp
  generalize hw1 : w.alloc (.cells #[.int .i64 3, .string n, .string n, .int .i64 sz, .slice aod Ld capd] 48) = w1 at *
  clear hR1 hb1 h hl hao
  go_enter Try.func39, Try.ntmps39
  go_wp2_with (go_at_call 41; refine Calls.mono HA.out ?_; rintro e w' ⟨rfl, hw⟩; have hw' := hw.symm; subst hw')
  go_ret
  exact HX.out _ HB.out

set_option maxHeartbeats 4000000 in
set_option maxRecDepth 20000 in
theorem rdo_mov_hit (v : Value) (zs : List Ent) (R : Nat → Prop) (n t : ByteArray) (sz : Int) (aod : Option Addr) (Ld capd : Nat) (zl : List Ent) (z : Ent) (zr : List Ent) (w : World) (h : RF w v zs R) (hh : HitE n zs zl z zr) (hs : Srt (zs.map Ent.fl)) (hnt : n ≠ t) (hl : zs.length ≤ 100000000) :
    Calls Try.prog 39 #[v, .agg #[.int .i64 3, .string n, .string t, .int .i64 sz, .slice aod Ld capd]] w fun e w' => Done w w' e R (ap (zs.map Ent.fl) (.mov n t)) := by
  obtain ⟨ao, cap, rfl, hao⟩ := h.shape
  have hlz : zl.length < zs.length := by rw [hh.1]; simp
  obtain ⟨g, rfl⟩ := hao (by omega)
  have hzm : z ∈ zs := by rw [hh.1]; simp
  have hb1 := bel_box w (.cells #[.int .i64 3, .string n, .string t, .int .i64 sz, .slice aod Ld capd] 48)
  have hR1 := h.below hb1
  have HA : Hid (_) := at_hit _ zs R n zl z zr _ hR1 hh (by omega)
  have q0 : (w.alloc (.cells #[.int .i64 3, .string n, .string t, .int .i64 sz, .slice aod Ld capd] 48)).cell? ⟨w.heap.size, 0, none⟩ = some (.int .i64 3) := by rw [cell_of_row _ _ 0 _ _ _ (heap_alloc_new _ _)]; rfl
  have q1 : (w.alloc (.cells #[.int .i64 3, .string n, .string t, .int .i64 sz, .slice aod Ld capd] 48)).cell? ⟨w.heap.size, 1, none⟩ = some (.string n) := by rw [cell_of_row _ _ 1 _ _ _ (heap_alloc_new _ _)]; rfl
  have q2 : (w.alloc (.cells #[.int .i64 3, .string n, .string t, .int .i64 sz, .slice aod Ld capd] 48)).cell? ⟨w.heap.size, 2, none⟩ = some (.string t) := by rw [cell_of_row _ _ 2 _ _ _ (heap_alloc_new _ _)]; rfl
  obtain ⟨c0, c1⟩ := hR1.cell zl.length hlz
  have hzz : zs[zl.length] = z := by simp only [hh.1]; simp
  rw [hzz] at c1
  obtain ⟨aoz, capz, hzd, hcz, _⟩ := (h.data z hzm).sl.shape
  have hdz := h.data z hzm
  rw [hzd] at c1 hdz
  have hnn : (n.toList == t.toList) = false := by rw [name_eqb]; simpa using hnt
  have hlt' : (zl.length : Int) < (zs.length : Int) := by omega
  generalize hw1 : w.alloc (.cells #[.int .i64 3, .string n, .string t, .int .i64 sz, .slice aod Ld capd] 48) = w1 at *
  have hlen2 : (zl ++ zr).length ≤ 100000000 := by
    have : zs.length = (zl ++ z :: zr).length := by rw [hh.1]
    simp at this ⊢
    omega
  have hsz : Srt ((zl ++ zr).map Ent.fl) := by
    have h1 := srt_del n hs
    rw [hh.hit.delE] at h1
    simpa using h1
  have hbA : Below w1.heap.size w1 (w1.alloc (.cells #[.string t, .slice aoz z.bs.length capz] 77)).drew := (bel_box _ _).drew
  have a0 : (w1.alloc (.cells #[.string t, .slice aoz z.bs.length capz] 77)).drew.cell? ⟨w1.heap.size, 0, none⟩ = some (.string t) := by show (w1.alloc _).cell? _ = _; rw [cell_of_row _ _ 0 _ _ _ (heap_alloc_new _ _)]; rfl
  have a1 : (w1.alloc (.cells #[.string t, .slice aoz z.bs.length capz] 77)).drew.cell? ⟨w1.heap.size, 1, none⟩ = some (.slice aoz z.bs.length capz) := by show (w1.alloc _).cell? _ = _; rw [cell_of_row _ _ 1 _ _ _ (heap_alloc_new _ _)]; rfl
  have hbw : ∀ u, Below w1.heap.size w1 u → Below w.heap.size w u := fun u hb => hb1.trans (hb.mono hb1.size)
  have HFin : Hid (∀ (u : World) (v2 : Value) (xs yl yr : List Ent), Below w1.heap.size w1 u → RF u v2 xs (ext R w1 u) → MissE t xs yl yr → xs.length ≤ 100000000 → (yl ++ ⟨t, .slice aoz z.bs.length capz, z.bs⟩ :: yr).map Ent.fl = ap (zs.map Ent.fl) (.mov n t) → Calls Try.prog 52 #[v2, .agg #[.string t, .slice aoz z.bs.length capz]] u fun e w5 => ∃ ao5 N5 cap5, e = .returned (.slice ao5 N5 cap5) ∧ Hid (Done w w5 (.returned (.slice ao5 N5 cap5)) R (ap (zs.map Ent.fl) (.mov n t)))) := by
    intro u v2 xs yl yr hb hR hM hxl hE
    refine (with_any v2 xs (ext R w1 u) t _ z.bs yl yr u hR hM ((hdz.kept (Fr.of_below (hbw u hb))).mono (fun k hk hR => hk (Or.inl hR))) hxl).mono ?_
    rintro e w5 ⟨v5, rfl, hR5, hb5⟩
    obtain ⟨ao5, N5, cap5, rfl⟩ := own_slice hR5.row
    have k5 : Below w1.heap.size w1 w5 := hb.trans (hb5.mono hb.size)
    refine ⟨ao5, N5, cap5, rfl, ao5, N5, cap5, _, rfl, hR5.mono (fun j hj => ?_) (ext_lt h.lt (hbw _ k5).size), hE, hbw _ k5⟩
    have h1 := hb1.size
    have h2 := hb.size
    have h3 := hb5.size
    rcases hj with (hj | hj) | hj
    · exact Or.inl hj
    · exact Or.inr ⟨by omega, by omega⟩
    · exact Or.inr ⟨by omega, hj.2⟩
  have hap : ap (zs.map Ent.fl) (.mov n t) = ins ⟨t, z.bs⟩ (del t ((zl ++ zr).map Ent.fl)) := by
    have hi := hh.hit
    simp only [ap, hi.lookE, if_neg hnt, hi.delE]
    simp [Ent.fl]
  have HW : Hid (Calls Try.prog 51 #[.slice (some ⟨g, 0, none⟩) zs.length cap, .int .i64 (zl.length : Int)] (w1.alloc (.cells #[.string t, .slice aoz z.bs.length capz] 77)).drew fun e w2 => ∃ ao2 N2 cap2, e = .returned (.slice ao2 N2 cap2) ∧ w2.cell? ⟨w.heap.size, 2, none⟩ = some (.string t) ∧ w2.cell? ⟨w1.heap.size, 0, none⟩ = some (.string t) ∧ w2.cell? ⟨w1.heap.size, 1, none⟩ = some (.slice aoz z.bs.length capz) ∧
      ∃ x : Int, Hid (Calls Try.prog 41 #[.slice ao2 N2 cap2, .string t] w2 fun e w' => e = .returned (.int .i64 x) ∧ w' = w2) ∧ ((x = -1 ∧ Hid (Calls Try.prog 52 #[.slice ao2 N2 cap2, .agg #[.string t, .slice aoz z.bs.length capz]] w2 fun e w5 => ∃ ao5 N5 cap5, e = .returned (.slice ao5 N5 cap5) ∧ Hid (Done w w5 (.returned (.slice ao5 N5 cap5)) R (ap (zs.map Ent.fl) (.mov n t))))) ∨
        (0 ≤ x ∧ Hid (Calls Try.prog 51 #[.slice ao2 N2 cap2, .int .i64 x] w2 fun e w3 => ∃ ao3 N3 cap3, e = .returned (.slice ao3 N3 cap3) ∧ w3.cell? ⟨w1.heap.size, 0, none⟩ = some (.string t) ∧ w3.cell? ⟨w1.heap.size, 1, none⟩ = some (.slice aoz z.bs.length capz) ∧ Hid (Calls Try.prog 52 #[.slice ao3 N3 cap3, .agg #[.string t, .slice aoz z.bs.length capz]] w3 fun e w5 => ∃ ao5 N5 cap5, e = .returned (.slice ao5 N5 cap5) ∧ Hid (Done w w5 (.returned (.slice ao5 N5 cap5)) R (ap (zs.map Ent.fl) (.mov n t)))))))) := by
    refine (without_any _ zs R zl z zr _ (hR1.below hbA) hh.1 (by omega)).mono ?_
    rintro e w2 ⟨v2, rfl, hR2, hb2⟩
    obtain ⟨ao2, N2, cap2, rfl⟩ := own_slice hR2.row
    have k2 : Below w1.heap.size w1 w2 := hbA.trans (hb2.mono hbA.size)
    have hR2' := hR2.from hbA.size
    refine ⟨ao2, N2, cap2, rfl, below_cell k2 q2, below_cell hb2 a0, below_cell hb2 a1, ?_⟩
    rcases splitE t (zl ++ zr) hsz with ⟨yl, y, yr, hy⟩ | ⟨yl, yr, hy⟩
    · refine ⟨(yl.length : Int), at_hit _ _ _ t yl y yr w2 hR2' hy (by omega), Or.inr ⟨by omega, ?_⟩⟩
      refine (without_any _ _ _ yl y yr w2 hR2' hy.1 (by omega)).mono ?_
      rintro e w3 ⟨v3, rfl, hR3, hb3⟩
      obtain ⟨ao3, N3, cap3, rfl⟩ := own_slice hR3.row
      have hb3A := hb2.trans (hb3.mono hb2.size)
      have k3 : Below w1.heap.size w1 w3 := k2.trans (hb3.mono k2.size)
      refine ⟨ao3, N3, cap3, rfl, below_cell hb3A a0, below_cell hb3A a1, HFin.out w3 _ (yl ++ yr) yl yr k3 (hR3.mono (fun j hj => ?_) (fun j hj => ?_)) ⟨rfl, hy.2.2.1, hy.2.2.2⟩ ?_ ?_⟩
      · have h2 := k2.size
        have h3 := hb3.size
        rcases hj with (hj | hj) | hj
        · exact Or.inl hj
        · exact Or.inr ⟨hj.1, by omega⟩
        · exact Or.inr ⟨by omega, hj.2⟩
      · rcases hj with hj | hj
        · exact Nat.lt_of_lt_of_le (hR1.lt j hj) k3.size
        · exact hj.2
      · have : (zl ++ zr).length = (yl ++ y :: yr).length := by rw [hy.1]
        simp at this hlen2 ⊢
        omega
      · rw [hap, hy.hit.insE]
        simp [Ent.fl]
    · refine ⟨-1, at_miss _ _ _ t yl yr w2 hR2' hy (by omega), Or.inl ⟨rfl, HFin.out w2 _ _ yl yr k2 hR2' hy hlen2 ?_⟩⟩
      rw [hap, hy.miss.delE, hy.miss.insE]
      simp [Ent.fl]
  clear hR1 hbw hap HFin hsz hlen2 hb1 hdz hzd hzz hzm h hs hao hbA a0 a1 hl hh
  go_enter Try.func39, Try.ntmps39
  go_wp2_with (go_at_call 41; refine Calls.mono HA.out ?_; rintro e w' ⟨rfl, hw⟩; have hw' := hw.symm; subst hw')
  have ha2 : ∀ ob, (w1.alloc ob).cell? ⟨w.heap.size, 2, none⟩ = some (.string t) := fun ob => below_cell (bel_box _ ob) q2
  have ha1 : ∀ ob, (w1.alloc ob).cell? ⟨g, zl.length * 2 + 1, none⟩ = some (.slice aoz z.bs.length capz) := fun ob => below_cell (bel_box _ ob) c1
  clear HA q0 q1 c0
  go_region_held (fun u => u.cell? ⟨w.heap.size, 2, none⟩ = some (.string t) ∧ u.cell? ⟨g, zl.length * 2 + 1, none⟩ = some (.slice aoz z.bs.length capz))
    (first | exact ⟨q2, c1⟩ | exact ⟨ha2 _, ha1 _⟩ | go_keep)
    (fail)
  clear ha1 ha2 q2 c1 hw1
  go_wp2_with fail
  refine Calls.mono HW.out ?_
  rintro e w2 ⟨ao2, N2, cap2, rfl, m2, f0, f1, x, HAt, hx⟩
  rcases hx with ⟨rfl, HC⟩ | ⟨hx0, HC⟩
  · go_wp2_with (first
      | (go_at_call 41; refine Calls.mono HAt.out ?_; rintro e w' ⟨rfl, hw⟩; have hw' := hw.symm; subst hw')
      | (go_at_call 52; refine Calls.mono HC.out ?_; rintro e w5 ⟨ao5, N5, cap5, rfl, HX⟩))
    go_ret
    exact HX.out
  · go_wp2_with (first
      | (go_at_call 41; refine Calls.mono HAt.out ?_; rintro e w' ⟨rfl, hw⟩; have hw' := hw.symm; subst hw')
      | (go_at_call 51; refine Calls.mono HC.out ?_; rintro e w3 ⟨ao3, N3, cap3, rfl, f03, f13, HD⟩)
      | (go_at_call 52; refine Calls.mono HD.out ?_; rintro e w5 ⟨ao5, N5, cap5, rfl, HX⟩))
    go_ret
    exact HX.out
end Go.Proofs.Ytleelemcmnlfiaa
namespace Go.Proofs.Ytleelemcmnlfiaa
open Go.RowKit

theorem rdo_any (v : Value) (zs : List Ent) (R : Nat → Prop) (kd : Int) (nm t : ByteArray) (sz : Int) (dv : Value) (c : Ch) (w : World) (h : RF w v zs R) (hs : Srt (zs.map Ent.fl)) (hc : RcOk w kd nm t sz dv c R) (hok : Okc (zs.map Ent.fl) c) (hm : mass (zs.map Ent.fl) + c.mass ≤ 100000000) :
    Calls Try.prog 39 #[v, .agg #[.int .i64 kd, .string nm, .string t, .int .i64 sz, dv]] w fun e w' => Done w w' e R (ap (zs.map Ent.fl) c) := by
  have hum := used_mass (zs.map Ent.fl)
  rw [List.length_map] at hum
  obtain ⟨⟨aod, Ld, capd, rfl⟩, hc⟩ := hc
  have hzb : ∀ z zl zr, zs = zl ++ z :: zr → z.bs.length ≤ mass (zs.map Ent.fl) := by
    rintro z zl zr rfl
    rw [List.map_append, mass_append, List.map_cons, mass_cons]
    simp only [Ent.fl]
    omega
  cases c with
  | app n b =>
    obtain ⟨rfl, rfl, hS⟩ := hc
    simp only [Ch.mass] at hm
    rcases splitE nm zs hs with ⟨zl, z, zr, hh⟩ | ⟨zl, zr, hh⟩
    · have := hzb z zl zr hh.1
      exact rdo_app_hit v zs R nm t sz _ b zl z zr w h hh hS (by omega) (by omega)
    · exact rdo_app_miss v zs R nm t sz _ b zl zr w h hh hS (by omega) (by omega)
  | cut n k =>
    obtain ⟨rfl, rfl, rfl⟩ := hc
    simp only [Ch.mass] at hm
    rcases splitE nm zs hs with ⟨zl, z, zr, hh⟩ | ⟨zl, zr, hh⟩
    · have := hzb z zl zr hh.1
      exact rdo_cut_hit v zs R nm t k aod Ld capd zl z zr w h hh (hok z.fl hh.hit.lookE) (by omega) (by omega)
    · exact rdo_cut_miss v zs R nm t k aod Ld capd zl zr w h hh (by omega)
  | rem n =>
    obtain ⟨rfl, rfl⟩ := hc
    simp only [Ch.mass] at hm
    rcases splitE nm zs hs with ⟨zl, z, zr, hh⟩ | ⟨zl, zr, hh⟩
    · exact rdo_rem_hit v zs R nm t sz aod Ld capd zl z zr w h hh (by omega)
    · exact rdo_rem_miss v zs R nm t sz aod Ld capd zl zr w h hh (by omega)
  | mov n m =>
    obtain ⟨rfl, rfl, rfl⟩ := hc
    simp only [Ch.mass] at hm
    rcases splitE nm zs hs with ⟨zl, z, zr, hh⟩ | ⟨zl, zr, hh⟩
    · by_cases e : nm = t
      · subst e
        exact rdo_mov_self v zs R nm sz aod Ld capd zl z zr w h hh (by omega)
      · exact rdo_mov_hit v zs R nm t sz aod Ld capd zl z zr w h hh hs e (by omega)
    · exact rdo_mov_miss v zs R nm t sz aod Ld capd zl zr w h hh (by omega)

set_option maxHeartbeats 400000 in
theorem rroom_any (n : Int) (w : World) :
    Calls Try.prog 10 #[.int .i64 n] w fun e w' => e = .returned (.int .i64 (roomN n)) ∧ w' = w := by
  go_enter Try.func10, Try.ntmps10
  go_wp2
  all_goals (go_ret; refine ⟨congrArg (fun b => Ending.returned (Value.int .i64 b)) ?_, rfl⟩; unfold roomN; try omega)

set_option maxHeartbeats 1000000 in
theorem rname_any (a : ByteArray) (w : World) (hl : a.size ≤ 1000000000) :
    Calls Try.prog 42 #[.string a] w fun e w' => e = .returned (.bool (okN a)) ∧ w' = w := by
  go_enter Try.func42, Try.ntmps42
  go_wp2
  go_loopw [3] (fun vi wr => ∃ k : Nat, k ≤ a.size ∧ vi = .int .i64 k ∧ Hid ((a.data.toList.take k).all (fun c => okB c.toNat) = true) ∧ wr = w) (fun vi _ => a.size - (intOf vi).toNat)
  case atStart => exact ⟨0, Nat.zero_le _, rfl, rfl, rfl⟩
  case round =>
    obtain ⟨k, hk, rfl, HA, hw⟩ := hrel
    have hw' := hw.symm
    subst hw'
    by_cases hlt : k < a.size
    · have hlt' : (k : Int) < (a.size : Int) := by omega
      have hk2 : k < a.data.toList.length := hlt
      have hak : a.data.toList[k]? = some a[k] := by rw [List.getElem?_eq_getElem hk2]; rfl
      have HT : Hid (a.data.toList.take (k + 1) = a.data.toList.take k ++ [a[k]]) := take_succ_snoc _ k _ hak
      have HNo : Hid (okB (a[k].toNat : Int) = false → okN a = false) := by
        intro hc
        have : a.data.toList.all (fun c => okB c.toNat) = false := by
          rw [List.all_eq_false]
          exact ⟨a[k], List.mem_of_getElem? hak, by simp [hc]⟩
        unfold okN
        rw [this, Bool.and_false]
      have HYes : Hid (okB (a[k].toNat : Int) = true → (a.data.toList.take (k + 1)).all (fun c => okB c.toNat) = true) := by
        intro hc
        rw [HT.out, List.all_append, HA.out]
        simp [hc]
      clear HT hak
      go_wp2
      all_goals try simp only [Bool.not_eq_eq_eq_not, Bool.not_true, Bool.not_false, decide_eq_true_eq, decide_eq_false_iff_not, beq_iff_eq, beq_eq_false_iff_ne, ne_eq] at *
      all_goals first
        | (exfalso; omega)
        | (go_ret
           refine ⟨?_, rfl⟩
           rw [HNo.out (by unfold okB; simp <;> omega)]
           rfl)
        | (refine ⟨⟨k + 1, by omega, by go_num, HYes.out (by unfold okB; simp <;> omega), trivial⟩, by simp [intOf]; omega⟩)
    · have e : k = a.size := by omega
      subst e
      have hlt' : ¬ (a.size : Int) < (a.size : Int) := by omega
      have HF : Hid (okN a = (decide (1 ≤ (a.size : Int)) && decide ((a.size : Int) ≤ 16))) := by
        show _ = _
        have h := HA.out
        rw [List.take_of_length_le (by show a.data.toList.length ≤ _; exact Nat.le_refl _)] at h
        unfold okN
        rw [h, Bool.and_true, Bool.eq_iff_iff]
        simp
        omega
      clear hlt
      go_wp2
      all_goals (
        go_ret
        refine ⟨congrArg (fun b => Ending.returned (Value.bool b)) ?_, rfl⟩
        rw [HF.out, Bool.eq_iff_iff]
        simp <;> omega)
end Go.Proofs.Ytleelemcmnlfiaa
namespace Go.Proofs.Ytleelemcmnlfiaa
open Go.RowKit

def blank : Ent := ⟨⟨#[]⟩, .slice none 0 0, []⟩
theorem made_blank (n : Nat) : (madeCells (Value.agg #[.string ⟨#[]⟩, .slice none 0 0]).cells (n * 2)).toList = cellsF (List.replicate n blank) := by
  apply List.ext_getElem?
  intro j
  have hc : (Value.agg #[.string ⟨#[]⟩, .slice none 0 0]).cells = #[.string ⟨#[]⟩, .slice none 0 0] := rfl
  by_cases hj : j < n * 2
  · obtain ⟨i, hi⟩ : ∃ i, j = i * 2 ∨ j = i * 2 + 1 := ⟨j / 2, by omega⟩
    have hi2 : i < (List.replicate n blank).length := by simp; omega
    have hg := cellsF_get (List.replicate n blank) i hi2
    simp only [List.getElem_replicate] at hg
    rcases hi with rfl | rfl
    · rw [hg.1, hc]
      simp [madeCells, hj, blank]
    · rw [hg.2, hc]
      simp [madeCells, hj, blank]
  · have h1 : (madeCells (Value.agg #[.string ⟨#[]⟩, .slice none 0 0]).cells (n * 2)).toList[j]? = none := List.getElem?_eq_none (by simp [madeCells]; omega)
    have h2 : (cellsF (List.replicate n blank))[j]? = none := List.getElem?_eq_none (by rw [cellsF_len, List.length_replicate]; omega)
    rw [h1, h2]

set_option maxHeartbeats 2000000 in
set_option maxRecDepth 20000 in
theorem fclone_any (v : Value) (zs : List Ent) (F : Nat → Prop) (w : World) (h : Fol w v zs F) (hm : mass (zs.map Ent.fl) ≤ 1000000000) :
    Calls Try.prog 37 #[v] w fun e w' => ∃ v' zs', e = .returned v' ∧ Fol w' v' zs' (ext (fun _ => False) w w') ∧ zs'.map Ent.fl = zs.map Ent.fl ∧ Below w.heap.size w w' := by
  obtain ⟨I, hI, hz0, hz1, hz2⟩ := info_parts Try.info72
  have hum := used_mass (zs.map Ent.fl)
  rw [List.length_map] at hum
  have hzl : zs.length ≤ 1000000000 := by omega
  have hdl : ∀ z ∈ zs, z.bs.length ≤ 1000000000 := fun z hz => by
    obtain ⟨l, r, rfl⟩ := List.append_of_mem hz
    rw [List.map_append, mass_append, List.map_cons, mass_cons] at hm
    simp only [Ent.fl] at hm
    omega
  obtain ⟨w0, hmk, hO0, hg0⟩ := run_make_full (P := Try.prog) w 0 60 72 I _ 2 Try.underlying60 hI hz0 hz1 .i64 .i64 zs.length (by rw [hz2]; omega) (by unfold maxLen; omega) (Nat.zero_le _)
  rw [made_blank] at hO0
  have hb0 : Below w.heap.size w w0 := (Below.refl _ _).grown hg0 (Nat.le_refl _) (by simp)
  have hlt0 : w.heap.size < w0.heap.size := (hO0.lt _ rfl).2
  have hF0 : Fol w0 (.slice (some ⟨w.heap.size, 0, none⟩) zs.length zs.length) (List.replicate zs.length blank) (ext (fun _ => False) w w0) := by
    refine ⟨by rw [List.length_replicate]; exact hO0, fun z hz => ?_, ?_, fun k hk => ?_, fun z hz k hk => ?_, ext_lt (fun _ h => h.elim) hb0.size⟩
    · rw [List.eq_of_mem_replicate hz]; exact World.ownsRow_nil _ _ _ _
    · exact List.pairwise_replicate.2 (Or.inr (fun k hk => by simp [blank, Value.ownBlock] at hk))
    · simp [Value.ownBlock] at hk; subst hk; exact Or.inr ⟨Nat.le_refl _, hlt0⟩
    · rw [List.eq_of_mem_replicate hz] at hk; simp [blank, Value.ownBlock] at hk
  have HF : Hid (_) := h
  have HF0 : Hid (_) := hF0
  have HD : Hid (_) := hdl
  have HB0 : Hid (_) := hb0
  obtain ⟨ao, N, cap, rfl⟩ := own_slice h.row
  have hN : N = zs.length := by
    rcases h.shape with ⟨e, e2⟩ | ⟨_, _, e, _⟩ <;> (simp only [Value.slice.injEq] at e; omega)
  subst hN
  clear h hF0 hO0 hg0 hb0 hdl hm hum hI hz0 hz1 hz2
  go_enter Try.func37, Try.ntmps37
  go_wp2
  go_loopw [11] (fun vi wr => ∃ (k : Nat) (zd : List Ent), k ≤ zs.length ∧ vi = .int .i64 k ∧ Hid (zd.length = k ∧ zd.map Ent.fl = (zs.take k).map Ent.fl ∧ Fol wr (.slice (some ⟨w.heap.size, 0, none⟩) zs.length zs.length) (zd ++ List.replicate (zs.length - k) blank) (ext (fun _ => False) w wr)) ∧ Hid (Below w.heap.size w wr ∧ w.heap.size < wr.heap.size)) (fun vi _ => zs.length - (intOf vi).toNat)
  case atStart => exact ⟨0, [], Nat.zero_le _, rfl, ⟨rfl, by simp, by simpa using HF0.out⟩, HB0.out, hlt0⟩
  case round =>
    obtain ⟨k, zd, hk, rfl, HK, HB⟩ := hrel
    by_cases hlt : k < zs.length
    · have hlt' : (k : Int) < (zs.length : Int) := by omega
      obtain ⟨g, rfl⟩ : ∃ g, ao = some ⟨g, 0, none⟩ := by
        rcases HF.out.shape with ⟨_, e⟩ | ⟨g, cap', e, _⟩
        · omega
        · simp at e; exact ⟨g, e.1⟩
      have hFr := HF.out.below HB.out.1
      obtain ⟨c0, c1⟩ := hFr.cell k hlt
      have hdat := hFr.data zs[k] (List.getElem_mem hlt)
      obtain ⟨aod, Ld, capd, hd⟩ := own_slice hdat
      rw [hd] at c1
      have hw1 : Below wr.heap.size wr (wr.alloc (.cells #[.string zs[k].name, .slice aod Ld capd] 72)).drew := ((Below.refl _ _).alloc (Nat.le_refl _) _).drew
      have hsl : Sl (wr.alloc (.cells #[.string zs[k].name, .slice aod Ld capd] 72)).drew (.slice aod Ld capd) zs[k].bs := by have h := (Sl.of_own hdat).below hw1; rw [hd] at h; exact h
      have hrep : List.replicate (zs.length - k) blank = blank :: List.replicate (zs.length - (k + 1)) blank := by
        rw [show zs.length - k = (zs.length - (k + 1)) + 1 by omega, List.replicate_succ]
      have HC : Hid (Calls Try.prog 34 #[.slice aod Ld capd] (wr.alloc (.cells #[.string zs[k].name, .slice aod Ld capd] 72)).drew fun e w2 => ∃ ao2 L2 cap2, e = .returned (.slice ao2 L2 cap2) ∧ w2.cell? ⟨wr.heap.size, 0, none⟩ = some (.string zs[k].name) ∧ w2.cell? ⟨wr.heap.size, 1, none⟩ = some (.slice aod Ld capd) ∧ (∃ u, w2.cell? ⟨w.heap.size, k * 2, none⟩ = some u) ∧ (∃ u, w2.cell? ⟨w.heap.size, k * 2 + 1, none⟩ = some u) ∧ w2.frozen? ⟨w.heap.size, k * 2, none⟩ = false ∧ w2.frozen? ⟨w.heap.size, k * 2 + 1, none⟩ = false ∧
          Hid (Fol ((w2.setCell ⟨w.heap.size, k * 2, none⟩ (.string zs[k].name)).setCell ⟨w.heap.size, k * 2 + 1, none⟩ (.slice ao2 L2 cap2)) (.slice (some ⟨w.heap.size, 0, none⟩) zs.length zs.length) ((zd ++ [⟨zs[k].name, .slice ao2 L2 cap2, zs[k].bs⟩]) ++ List.replicate (zs.length - (k + 1)) blank) (ext (fun _ => False) w ((w2.setCell ⟨w.heap.size, k * 2, none⟩ (.string zs[k].name)).setCell ⟨w.heap.size, k * 2 + 1, none⟩ (.slice ao2 L2 cap2))) ∧
            Below w.heap.size w ((w2.setCell ⟨w.heap.size, k * 2, none⟩ (.string zs[k].name)).setCell ⟨w.heap.size, k * 2 + 1, none⟩ (.slice ao2 L2 cap2)) ∧ w.heap.size < w2.heap.size)) := by
        refine (clone_any _ zs[k].bs _ hsl (by have := HD.out zs[k] (List.getElem_mem hlt); omega)).mono ?_
        rintro e w2 ⟨d', rfl, hO, hb⟩
        obtain ⟨ao2, L2, cap2, rfl⟩ := own_slice hO
        have hb2 : Below wr.heap.size wr w2 := hw1.trans (hb.mono (by have := hw1.size; omega))
        obtain ⟨k1, k2, k3⟩ := HK.out
        rw [hrep] at k3
        have hF2 : Fol w2 (.slice (some ⟨w.heap.size, 0, none⟩) zs.length zs.length) (zd ++ blank :: List.replicate (zs.length - (k + 1)) blank) (ext (fun _ => False) w w2) :=
          (k3.below hb2).mono (fun q hq => by rcases hq with hq | hq; exact Or.inl hq; exact Or.inr ⟨hq.1, by have := hb2.size; omega⟩) (ext_lt (fun _ h => h.elim) (by have := hb2.size; have := HB.out.2; omega))
        have hset := hF2.set zs[k].name (.slice ao2 L2 cap2) zs[k].bs (own_zero hO) (fun q hq => Or.inr ⟨by have := (hO.lt q hq).1; have := HB.out.2; have := hw1.size; omega, (hO.lt q hq).2⟩) (fun x hx q hq hq' => by
          have h1 := (hO.lt q hq').1
          have h2 := k3.lt q (k3.dataIn x (by rcases hx with hx | hx <;> simp [hx]) q hq)
          have h3 := hw1.size
          omega)
        rw [k1] at hset
        have hm0 : (wr.alloc (.cells #[.string zs[k].name, .slice aod Ld capd] 72)).drew.heap[wr.heap.size]? = some (.cells #[.string zs[k].name, .slice aod Ld capd] 72 (0, 0)) := heap_alloc_new wr _
        have hlk : wr.heap.size < (wr.alloc (.cells #[.string zs[k].name, .slice aod Ld capd] 72)).drew.heap.size := by show wr.heap.size < (wr.alloc _).heap.size; simp
        have hm2 : w2.heap[wr.heap.size]? = some (.cells #[.string zs[k].name, .slice aod Ld capd] 72 (0, 0)) := (hb.block _ hlk).trans hm0
        have hcell := hF2.cell k (by simp; omega)
        refine ⟨ao2, L2, cap2, rfl, by rw [cell_of_row w2 _ 0 _ _ _ hm2]; rfl, by rw [cell_of_row w2 _ 1 _ _ _ hm2]; rfl, ⟨_, hcell.1⟩, ⟨_, hcell.2⟩, hF2.frozen _, hF2.frozen _, ?_, ?_, by have := hb2.size; have := HB.out.2; omega⟩
        · have e : (zd ++ [(⟨zs[k].name, .slice ao2 L2 cap2, zs[k].bs⟩ : Ent)]) ++ List.replicate (zs.length - (k + 1)) blank = zd ++ ⟨zs[k].name, .slice ao2 L2 cap2, zs[k].bs⟩ :: List.replicate (zs.length - (k + 1)) blank := by simp
          rw [e]
          refine hset.mono (fun q hq => ?_) (ext_lt (fun _ h => h.elim) ?_)
          · rcases hq with hq | hq
            · exact Or.inl hq
            · exact Or.inr ⟨hq.1, by rw [setCell_size, setCell_size]; exact hq.2⟩
          · rw [setCell_size, setCell_size]; have := hb2.size; have := HB.out.2; omega
        · exact ((HB.out.1.trans (hb2.mono (by have := HB.out.2; omega))).setCell (Nat.le_refl _) _).setCell (Nat.le_refl _) _
      have hne : wr.heap.size ≠ w.heap.size := by have := HB.out.2; omega
      have hne2 : w.heap.size ≠ wr.heap.size := fun e => hne e.symm
      have HL : Hid (zd.length = k ∧ zd.map Ent.fl = (zs.take k).map Ent.fl) := ⟨HK.out.1, HK.out.2.1⟩
      clear hFr hdat hd hw1 hsl hrep HK HD
      obtain ⟨nm, HN⟩ : ∃ nm, Hid (nm = zs[k].name) := ⟨zs[k].name, (rfl : _ = _)⟩
      rw [← HN.out] at c0 HC
      go_wp2_with fail
      go_region_held (fun w' => w'.cell? ⟨wr.heap.size, 0, none⟩ = some (.string nm) ∧ w'.cell? ⟨wr.heap.size, 1, none⟩ = some (.slice aod Ld capd))
        (first | exact ⟨by simp, by simp⟩ | exact ⟨f0, f1⟩ | go_keep)
        (first | (go_at_call 34; refine Calls.mono HC.out ?_; rintro e w2 ⟨ao2, L2, cap2, rfl, f0, f1, ⟨u0, e0⟩, ⟨u1, e1⟩, z0, z1, HX⟩))
      have HF' : Hid ((zd ++ [(⟨nm, .slice ao2 L2 cap2, zs[k].bs⟩ : Ent)]).length = k + 1 ∧ (zd ++ [(⟨nm, .slice ao2 L2 cap2, zs[k].bs⟩ : Ent)]).map Ent.fl = (zs.take (k + 1)).map Ent.fl) := by
        refine ⟨by simp [HL.out.1], ?_⟩
        rw [take_succ_snoc zs k zs[k] (List.getElem?_eq_getElem hlt), List.map_append, List.map_append, HL.out.2, HN.out]
        rfl
      clear f0 f1 e0 e1 z0 z1 c0 c1 HC
      go_wp2
      go_roundw
      case rel => exact ⟨k + 1, _, by omega, by go_num, ⟨HF'.out.1, HF'.out.2, HX.out.1⟩, HX.out.2.1, by rw [setCell_size, setCell_size]; exact HX.out.2.2⟩
      case measure => simp [intOf]; omega
    · have e : k = zs.length := by omega
      subst e
      go_wp2
      go_ret
      obtain ⟨h1, h2, h3⟩ := HK.out
      refine ⟨_, zd, rfl, by simpa using h3, by rw [h2, List.take_length], HB.out.1⟩
end Go.Proofs.Ytleelemcmnlfiaa

/- The walk of the document's do: a change of files. The walks of a folder's tear and clone. The walk of the document's do, further: Cut, Remove. -/
import Derived.Test.YtleelemcmnlfiaaPart07
import Derived.Deep.RegionHeldLaw
import Derived.Test.YtleelemcmnlfiaaPart05
namespace Go.Proofs.Ytleelemcmnlfiaa
open Go.RowKit

/-- 'append' of any slice of bytes onto a row of the call's own, as one run. -/
theorem run_append_any (w : World) (base : Nat) (v vx : Value) (bs tx : List UInt8) (hown : w.ownsRow base 5 1 v bs.length (cells8 bs)) (hS : Sl w vx tx) (hl : bs.length + tx.length ≤ 140737488355328) (hbase : base ≤ w.heap.size) :
    ∃ ao L cap w', (∀ ty, (Builtin.append_ #[32, 32] ty #[v, vx]).run Try.prog w = .ok (.slice ao L cap) w') ∧ w'.ownsRow base 5 1 (.slice ao L cap) (bs ++ tx).length (cells8 (bs ++ tx)) ∧ w.grownBy w' v.ownBlock := by
  obtain ⟨i, hi, hz, hsize, hby⟩ := info_parts Try.info5
  obtain ⟨ao, cap, rfl, h1, h2, h3, h4⟩ := id hS
  cases ao with
  | some ad =>
    have H := fun ty => run_append_own_at (P := Try.prog) w base 32 ty 5 i (.int .u8 0) 1 1 Try.underlying32 hi hz hsize hby rfl (by decide) v bs.length (cells8 bs) hown ad tx.length cap (cells8 tx) (by rw [cells8_len, Nat.mul_one]) (sl_news hS) (cells8_one tx) (by simp only [maxLen]; omega) (by omega) hbase
    obtain ⟨v', w', hr, g1, g2, _⟩ := H 0
    obtain ⟨ao', L', cap', rfl⟩ := own_slice g1
    refine ⟨ao', L', cap', w', fun ty => hr, by rw [List.length_append, cells8_append]; exact g1, g2⟩
  | none =>
    have hc := h3 rfl
    have e : tx = [] := List.eq_nil_of_length_eq_zero (by omega)
    subst e hc
    obtain ⟨ao', L', cap', rfl⟩ := own_slice hown
    refine ⟨ao', L', cap', w, fun ty => ?_, by rw [List.append_nil]; exact hown, grown_refl _ _⟩
    exact run_append_owned_none (P := Try.prog) (w := w) base 32 ty 5 i 1 Try.underlying32 hi _ _ _ hown

theorem SlA.made {w w' : World} {v : Value} {bs : List UInt8} {R : Nat → Prop} (h : w'.ownsRow w.heap.size 5 1 v bs.length (cells8 bs)) : SlA w' v bs (fun k => ¬ ext R w w' k) :=
  SlA.of_own h (fun k hk hn => hn (Or.inr (h.lt k hk)))

/-- A file is put among files that have none of its name: its bytes are two slices', one behind the other. -/
theorem rapp_tail (v : Value) (zs : List Ent) (R : Nat → Prop) (n : ByteArray) (zl zr : List Ent) (bv dv : Value) (b d : List UInt8) (w : World) (h : RF w v zs R) (hm : MissE n zs zl zr) (hb : Sl w bv b) (hd : Sl w dv d) (hl : zs.length ≤ 100000000) (hbl : b.length + d.length ≤ 1000000000) :
    ∃ ao3 L3 cap3 w3, (∀ ty, (Builtin.append_ #[32, 32] ty #[.slice none 0 0, bv]).run Try.prog w = .ok (.slice ao3 L3 cap3) w3) ∧ Below w.heap.size w w3 ∧ ∃ ao4 L4 cap4 w4, (∀ ty, (Builtin.append_ #[32, 32] ty #[.slice ao3 L3 cap3, dv]).run Try.prog w3 = .ok (.slice ao4 L4 cap4) w4) ∧ Below w.heap.size w w4 ∧
      Hid (Calls Try.prog 52 #[v, .agg #[.string n, .slice ao4 L4 cap4]] w4 fun e w5 => ∃ ao5 N5 cap5, e = .returned (.slice ao5 N5 cap5) ∧ Hid (RF w5 (.slice ao5 N5 cap5) (zl ++ ⟨n, .slice ao4 L4 cap4, b ++ d⟩ :: zr) (ext R w w5) ∧ Below w.heap.size w w5)) := by
  obtain ⟨ao3, L3, cap3, w3, hr3, hO3, hg3⟩ := run_append_any w w.heap.size (.slice none 0 0) bv [] b (World.ownsRow_nil _ _ _ _) hb (by simp; omega) (Nat.le_refl _)
  have hb3 : Below w.heap.size w w3 := (Below.refl _ _).grown hg3 (Nat.le_refl _) (fun k hk => by simp [Value.ownBlock] at hk)
  rw [List.nil_append] at hO3
  obtain ⟨ao4, L4, cap4, w4, hr4, hO4, hg4⟩ := run_append_any w3 w.heap.size (.slice ao3 L3 cap3) dv b d hO3 (hd.below hb3) (by omega) hb3.size
  have hb4 : Below w.heap.size w w4 := hb3.grown hg4 hb3.size (fun k hk => (hO3.lt k hk).1)
  refine ⟨ao3, L3, cap3, w3, hr3, hb3, ao4, L4, cap4, w4, hr4, hb4, ?_⟩
  have hR4 : RF w4 v zs (ext R w w4) := (h.below hb4).mono (fun k hk => Or.inl hk) (ext_lt h.lt hb4.size)
  refine (with_any v zs (ext R w w4) n (.slice ao4 L4 cap4) (b ++ d) zl zr w4 hR4 hm (SlA.made hO4) hl).mono ?_
  rintro e w5 ⟨v5, rfl, hR5, hb5⟩
  obtain ⟨ao5, N5, cap5, rfl⟩ := own_slice hR5.row
  have hb5w : Below w.heap.size w w5 := hb4.trans (hb5.mono hb4.size)
  refine ⟨ao5, N5, cap5, rfl, hR5.mono (fun k hk => ?_) (ext_lt h.lt hb5w.size), hb5w⟩
  have h1 := hb4.size
  have h2 := hb5.size
  rcases hk with (hk | hk) | hk
  · exact Or.inl hk
  · exact Or.inr ⟨hk.1, by omega⟩
  · exact Or.inr ⟨by omega, hk.2⟩

/-- A change as the document has it, in memory. -/
def RcOk (w : World) (kd : Int) (nm t : ByteArray) (sz : Int) (dv : Value) (c : Ch) (R : Nat → Prop) : Prop :=
  (∃ ao L cap, dv = .slice ao L cap) ∧ match c with
    | .app n b => kd = 0 ∧ nm = n ∧ SlA w dv b (fun k => ¬ R k)
    | .cut n k => kd = 1 ∧ nm = n ∧ sz = (k : Int)
    | .rem n => kd = 2 ∧ nm = n
    | .mov n m => kd = 3 ∧ nm = n ∧ t = m

/-- What is left of a change of files. -/
def Done (w w' : World) (e : Ending) (R : Nat → Prop) (fs : List Fl) : Prop := ∃ ao N cap zs', e = .returned (.slice ao N cap) ∧ RF w' (.slice ao N cap) zs' (ext R w w') ∧ zs'.map Ent.fl = fs ∧ Below w.heap.size w w'

theorem bel_box (w : World) (o : Obj) : Below w.heap.size w (w.alloc o) := (Below.refl _ _).alloc (Nat.le_refl _) _

set_option maxHeartbeats 4000000 in
set_option maxRecDepth 20000 in
theorem rdo_app_hit (v : Value) (zs : List Ent) (R : Nat → Prop) (n t : ByteArray) (sz : Int) (dv : Value) (d : List UInt8) (zl : List Ent) (z : Ent) (zr : List Ent) (w : World) (h : RF w v zs R) (hh : HitE n zs zl z zr) (hd : SlA w dv d (fun k => ¬ R k)) (hl : zs.length ≤ 100000000) (hbl : z.bs.length + d.length ≤ 1000000000) :
    Calls Try.prog 39 #[v, .agg #[.int .i64 0, .string n, .string t, .int .i64 sz, dv]] w fun e w' => Done w w' e R (ap (zs.map Ent.fl) (.app n d)) := by
  obtain ⟨aod, capd, hdv, _, _⟩ := hd.sl.shape
  subst hdv
  obtain ⟨ao, cap, rfl, hao⟩ := h.shape
  have hlz : zl.length < zs.length := by rw [hh.1]; simp
  obtain ⟨g, rfl⟩ := hao (by omega)
  have hzm : z ∈ zs := by rw [hh.1]; simp
  have hb1 := bel_box w (.cells #[.int .i64 0, .string n, .string t, .int .i64 sz, .slice aod d.length capd] 48)
  have hR1 := h.below hb1
  have HA : Hid (_) := at_hit _ zs R n zl z zr _ hR1 hh (by omega)
  have q1 : (w.alloc (.cells #[.int .i64 0, .string n, .string t, .int .i64 sz, .slice aod d.length capd] 48)).cell? ⟨w.heap.size, 1, none⟩ = some (.string n) := by rw [cell_of_row _ _ 1 _ _ _ (heap_alloc_new _ _)]; rfl
  have q4 : (w.alloc (.cells #[.int .i64 0, .string n, .string t, .int .i64 sz, .slice aod d.length capd] 48)).cell? ⟨w.heap.size, 4, none⟩ = some (.slice aod d.length capd) := by rw [cell_of_row _ _ 4 _ _ _ (heap_alloc_new _ _)]; rfl
  have q0 : (w.alloc (.cells #[.int .i64 0, .string n, .string t, .int .i64 sz, .slice aod d.length capd] 48)).cell? ⟨w.heap.size, 0, none⟩ = some (.int .i64 0) := by rw [cell_of_row _ _ 0 _ _ _ (heap_alloc_new _ _)]; rfl
  obtain ⟨c0, c1⟩ := hR1.cell zl.length hlz
  have hzz : zs[zl.length] = z := by simp only [hh.1]; simp
  rw [hzz] at c1
  obtain ⟨aoz, capz, hzd, _, _⟩ := (h.data z hzm).sl.shape
  rw [hzd] at c1
  have hS1 := (h.data z hzm).sl.below hb1
  rw [hzd] at hS1
  have hd1 := hd.sl.below hb1
  generalize hw1 : w.alloc (.cells #[.int .i64 0, .string n, .string t, .int .i64 sz, .slice aod d.length capd] 48) = w1 at *
  have HW : Hid (Calls Try.prog 51 #[.slice (some ⟨g, 0, none⟩) zs.length cap, .int .i64 (zl.length : Int)] w1 fun e w2 => ∃ ao2 N2 cap2, e = .returned (.slice ao2 N2 cap2) ∧ w2.cell? ⟨w.heap.size, 1, none⟩ = some (.string n) ∧ w2.cell? ⟨w.heap.size, 4, none⟩ = some (.slice aod d.length capd) ∧
      ∃ ao3 L3 cap3 w3, (∀ ty, (Builtin.append_ #[32, 32] ty #[.slice none 0 0, .slice aoz z.bs.length capz]).run Try.prog w2.drew = .ok (.slice ao3 L3 cap3) w3) ∧ w3.cell? ⟨w.heap.size, 1, none⟩ = some (.string n) ∧ w3.cell? ⟨w.heap.size, 4, none⟩ = some (.slice aod d.length capd) ∧
      ∃ ao4 L4 cap4 w4, (∀ ty, (Builtin.append_ #[32, 32] ty #[.slice ao3 L3 cap3, .slice aod d.length capd]).run Try.prog w3 = .ok (.slice ao4 L4 cap4) w4) ∧ w4.cell? ⟨w.heap.size, 1, none⟩ = some (.string n) ∧ w4.cell? ⟨w.heap.size, 4, none⟩ = some (.slice aod d.length capd) ∧
      Hid (Calls Try.prog 52 #[.slice ao2 N2 cap2, .agg #[.string n, .slice ao4 L4 cap4]] w4 fun e w5 => ∃ ao5 N5 cap5, e = .returned (.slice ao5 N5 cap5) ∧ w5.cell? ⟨w.heap.size, 1, none⟩ = some (.string n) ∧ w5.cell? ⟨w.heap.size, 4, none⟩ = some (.slice aod d.length capd) ∧ Hid (Done w w5 (.returned (.slice ao5 N5 cap5)) R (ap (zs.map Ent.fl) (.app n d))))) := by
    refine (without_any _ zs R zl z zr w1 hR1 hh.1 (by omega)).mono ?_
    rintro e w2 ⟨v2, rfl, hR2, hb2⟩
    obtain ⟨ao2, N2, cap2, rfl⟩ := own_slice hR2.row
    have hb2d : Below w1.heap.size w1 w2.drew := hb2.drew
    have hlen2 : (zl ++ zr).length ≤ 100000000 := by
      have : zs.length = (zl ++ z :: zr).length := by rw [hh.1]
      simp at this ⊢
      omega
    obtain ⟨ao3, L3, cap3, w3, hr3, hb3, ao4, L4, cap4, w4, hr4, hb4, HC⟩ := rapp_tail (.slice ao2 N2 cap2) (zl ++ zr) (ext R w1 w2) n zl zr _ _ z.bs d w2.drew (hR2.below (Below.refl _ _).drew) ⟨rfl, hh.2.2.1, hh.2.2.2⟩ (hS1.below hb2d) (hd1.below hb2d) hlen2 hbl
    have k3 : Below w1.heap.size w1 w3 := hb2d.trans (hb3.mono hb2d.size)
    have k4 : Below w1.heap.size w1 w4 := hb2d.trans (hb4.mono hb2d.size)
    refine ⟨ao2, N2, cap2, rfl, below_cell hb2 q1, below_cell hb2 q4, ao3, L3, cap3, w3, hr3, below_cell k3 q1, below_cell k3 q4, ao4, L4, cap4, w4, hr4, below_cell k4 q1, below_cell k4 q4, HC.out.mono ?_⟩
    rintro e w5 ⟨ao5, N5, cap5, rfl, HX⟩
    obtain ⟨hR5, hb5⟩ := HX.out
    have k5 : Below w1.heap.size w1 w5 := hb2d.trans (hb5.mono hb2d.size)
    have k5w : Below w.heap.size w w5 := hb1.trans (k5.mono hb1.size)
    refine ⟨ao5, N5, cap5, rfl, below_cell k5 q1, below_cell k5 q4, ao5, N5, cap5, _, rfl, hR5.mono (fun k hk => ?_) (ext_lt h.lt k5w.size), ?_, k5w⟩
    · have h1 := hb1.size
      have h2 := hb2.size
      have h3 : w2.drew.heap.size ≤ w5.heap.size := hb5.size
      rcases hk with (hk | hk) | hk
      · exact Or.inl hk
      · exact Or.inr ⟨by omega, by have := hk.2; show _ < _; exact Nat.lt_of_lt_of_le hk.2 h3⟩
      · exact Or.inr ⟨Nat.le_trans (Nat.le_trans h1 h2) hk.1, hk.2⟩
    · have hi := hh.hit
      simp only [ap, hi.lookE, Option.map_some, Option.getD_some, hi.insE]
      simp [Ent.fl]
  clear hR1 hS1 hd1 hzd hzz hb1 h hd hbl hl hao hzm
  go_enter Try.func39, Try.ntmps39
  go_wp2_with (first
    | (go_at_call 41; refine Calls.mono HA.out ?_; rintro e w' ⟨rfl, hw⟩; have hw' := hw.symm; subst hw')
    | (go_at_call 51; refine Calls.mono HW.out ?_; rintro e w2 ⟨ao2, N2, cap2, rfl, m1, m4, ao3, L3, cap3, w3, hr3, n1, n4, ao4, L4, cap4, w4, hr4, l1, l4, HC⟩))
  clear HA HW hw1 q0 q1 q4 c0 c1
  go_region_held_law (fun w' => w'.cell? ⟨w.heap.size, 1, none⟩ = some (.string n) ∧ w'.cell? ⟨w.heap.size, 4, none⟩ = some (.slice aod d.length capd))
    (first | exact ⟨m1, m4⟩ | exact ⟨n1, n4⟩ | exact ⟨l1, l4⟩ | exact ⟨f1, f4⟩)
    (first
      | (refine step_append_run (by rfl) (.const (.slice none 0 0)) (.tmp 62) 32 32 (by rfl) _ _ (by rfl) (by rfl) (hr3 _) ?_)
      | (refine step_append_run (by rfl) (.tmp 63) (.tmp 65) 32 32 (by rfl) _ _ (by rfl) (by rfl) (hr4 _) ?_)
      | (go_at_call 52; refine Calls.mono HC.out ?_; rintro e w5 ⟨ao5, N5, cap5, rfl, f1, f4, HX⟩))
  go_wp2
  go_ret
  exact HX.out

set_option maxHeartbeats 4000000 in
set_option maxRecDepth 20000 in
theorem rdo_app_miss (v : Value) (zs : List Ent) (R : Nat → Prop) (n t : ByteArray) (sz : Int) (dv : Value) (d : List UInt8) (zl zr : List Ent) (w : World) (h : RF w v zs R) (hh : MissE n zs zl zr) (hd : SlA w dv d (fun k => ¬ R k)) (hl : zs.length ≤ 100000000) (hbl : d.length ≤ 1000000000) :
    Calls Try.prog 39 #[v, .agg #[.int .i64 0, .string n, .string t, .int .i64 sz, dv]] w fun e w' => Done w w' e R (ap (zs.map Ent.fl) (.app n d)) := by
  obtain ⟨aod, capd, hdv, _, _⟩ := hd.sl.shape
  subst hdv
  obtain ⟨ao, cap, rfl, hao⟩ := h.shape
  have hb1 := bel_box w (.cells #[.int .i64 0, .string n, .string t, .int .i64 sz, .slice aod d.length capd] 48)
  have hR1 := h.below hb1
  have HA : Hid (_) := at_miss _ zs R n zl zr _ hR1 hh (by omega)
  have q0 : (w.alloc (.cells #[.int .i64 0, .string n, .string t, .int .i64 sz, .slice aod d.length capd] 48)).cell? ⟨w.heap.size, 0, none⟩ = some (.int .i64 0) := by rw [cell_of_row _ _ 0 _ _ _ (heap_alloc_new _ _)]; rfl
  have q1 : (w.alloc (.cells #[.int .i64 0, .string n, .string t, .int .i64 sz, .slice aod d.length capd] 48)).cell? ⟨w.heap.size, 1, none⟩ = some (.string n) := by rw [cell_of_row _ _ 1 _ _ _ (heap_alloc_new _ _)]; rfl
  have q4 : (w.alloc (.cells #[.int .i64 0, .string n, .string t, .int .i64 sz, .slice aod d.length capd] 48)).cell? ⟨w.heap.size, 4, none⟩ = some (.slice aod d.length capd) := by rw [cell_of_row _ _ 4 _ _ _ (heap_alloc_new _ _)]; rfl
  have hd1 := hd.sl.below hb1
  generalize hw1 : w.alloc (.cells #[.int .i64 0, .string n, .string t, .int .i64 sz, .slice aod d.length capd] 48) = w1 at *
  obtain ⟨ao3, L3, cap3, w3, hr3, n1, n4, ao4, L4, cap4, w4, hr4, l1, l4, HC⟩ : ∃ ao3 L3 cap3 w3, (∀ ty, (Builtin.append_ #[32, 32] ty #[.slice none 0 0, .slice none 0 0]).run Try.prog w1.drew = .ok (.slice ao3 L3 cap3) w3) ∧ w3.cell? ⟨w.heap.size, 1, none⟩ = some (.string n) ∧ w3.cell? ⟨w.heap.size, 4, none⟩ = some (.slice aod d.length capd) ∧
      ∃ ao4 L4 cap4 w4, (∀ ty, (Builtin.append_ #[32, 32] ty #[.slice ao3 L3 cap3, .slice aod d.length capd]).run Try.prog w3 = .ok (.slice ao4 L4 cap4) w4) ∧ w4.cell? ⟨w.heap.size, 1, none⟩ = some (.string n) ∧ w4.cell? ⟨w.heap.size, 4, none⟩ = some (.slice aod d.length capd) ∧
      Hid (Calls Try.prog 52 #[.slice ao zs.length cap, .agg #[.string n, .slice ao4 L4 cap4]] w4 fun e w5 => ∃ ao5 N5 cap5, e = .returned (.slice ao5 N5 cap5) ∧ w5.cell? ⟨w.heap.size, 1, none⟩ = some (.string n) ∧ w5.cell? ⟨w.heap.size, 4, none⟩ = some (.slice aod d.length capd) ∧ Hid (Done w w5 (.returned (.slice ao5 N5 cap5)) R (ap (zs.map Ent.fl) (.app n d)))) := by
    have hb2d : Below w1.heap.size w1 w1.drew := (Below.refl _ _).drew
    obtain ⟨ao3, L3, cap3, w3, hr3, hb3, ao4, L4, cap4, w4, hr4, hb4, HC⟩ := rapp_tail (.slice ao zs.length cap) zs R n zl zr _ _ [] d w1.drew (hR1.below hb2d) hh (Sl.nil _) (hd1.below hb2d) hl (by simp; omega)
    have k3 : Below w1.heap.size w1 w3 := hb2d.trans (hb3.mono hb2d.size)
    have k4 : Below w1.heap.size w1 w4 := hb2d.trans (hb4.mono hb2d.size)
    refine ⟨ao3, L3, cap3, w3, hr3, below_cell k3 q1, below_cell k3 q4, ao4, L4, cap4, w4, hr4, below_cell k4 q1, below_cell k4 q4, HC.out.mono ?_⟩
    rintro e w5 ⟨ao5, N5, cap5, rfl, HX⟩
    obtain ⟨hR5, hb5⟩ := HX.out
    have k5 : Below w1.heap.size w1 w5 := hb2d.trans (hb5.mono hb2d.size)
    have k5w : Below w.heap.size w w5 := hb1.trans (k5.mono hb1.size)
    refine ⟨ao5, N5, cap5, rfl, below_cell k5 q1, below_cell k5 q4, ao5, N5, cap5, _, rfl, hR5.mono (fun k hk => ?_) (ext_lt h.lt k5w.size), ?_, k5w⟩
    · have h1 := hb1.size
      rcases hk with hk | hk
      · exact Or.inl hk
      · exact Or.inr ⟨Nat.le_trans h1 hk.1, hk.2⟩
    · have hi := hh.miss
      simp only [ap, hi.lookE, Option.map_none, Option.getD_none, hi.delE, List.nil_append, hi.insE]
      simp [Ent.fl]
  clear hR1 hd1 hb1 h hd hbl hl hao
  go_enter Try.func39, Try.ntmps39
  go_wp2_with (go_at_call 41; refine Calls.mono HA.out ?_; rintro e w' ⟨rfl, hw⟩; have hw' := hw.symm; subst hw')
  go_region_held_law (fun w' => w'.cell? ⟨w.heap.size, 1, none⟩ = some (.string n) ∧ w'.cell? ⟨w.heap.size, 4, none⟩ = some (.slice aod d.length capd))
    (first | exact ⟨q1, q4⟩ | exact ⟨n1, n4⟩ | exact ⟨l1, l4⟩ | exact ⟨f1, f4⟩)
    (first
      | (refine step_append_run (by rfl) (.const (.slice none 0 0)) (.tmp 62) 32 32 (by rfl) _ _ (by rfl) (by rfl) (hr3 _) ?_)
      | (refine step_append_run (by rfl) (.tmp 63) (.tmp 65) 32 32 (by rfl) _ _ (by rfl) (by rfl) (hr4 _) ?_)
      | (go_at_call 52; refine Calls.mono HC.out ?_; rintro e w5 ⟨ao5, N5, cap5, rfl, f1, f4, HX⟩))
  go_wp2
  go_ret
  exact HX.out
end Go.Proofs.Ytleelemcmnlfiaa
namespace Go.Proofs.Ytleelemcmnlfiaa
open Go.RowKit

theorem elem32 : Try.prog.underlying 32 = some (.slice (Try.prog.elem 32)) := by kernel_rfl
theorem size32 (w : World) : (sizeOf (Try.prog.elem 32)).run Try.prog w = .ok 1 w := by kernel_rfl
/-- The front of a slice of bytes, its place kept. -/
theorem slice_front (ao : Option Addr) (L cap k : Nat) (hk : k ≤ L) (hc : L ≤ cap) (w' : World) : (Instr.slice 32 (.slice ao L cap) none (some (.int .i64 (k : Int))) none).run Try.prog w' = .ok (.slice ao k cap) w' ∧ (Instr.sliceAt 32 (.slice ao L cap) none (some (.int .i64 (k : Int))) none).run Try.prog w' = .ok (.slice ao k cap) w' := by
  have e : (Instr.slice 32 (.slice ao L cap) none (some (.int .i64 (k : Int))) none).run Try.prog w' = .ok (.slice ao k cap) w' := by
    rw [run_slice_h w' 32 ao L cap elem32 .i64 k (by omega) (by omega), size32]
    simp [Result.andThen, sliced]
    cases ao <;> simp [Addr.add]
  exact ⟨e, by rw [run_sliceAt_slice (P := Try.prog) w' 32 _ _ _ _ elem32]; exact e⟩

set_option maxHeartbeats 1000000 in
set_option maxRecDepth 20000 in
theorem tear_go (b o : Nat) (v : Value) (zs : List Ent) (F : Nat → Prop) (cv : Value) (n : ByteArray) (bs : List UInt8) (k : Nat) (w : World) (hc : w.cell? ⟨b, o, none⟩ = some v) (hfz : w.frozen? ⟨b, o, none⟩ = false) (hF : Fol w v zs F) (hbF : ¬ F b) (hs : Srt (zs.map Ent.fl))
    (hV : ChV w cv (.app n bs) (fun k => F k ∨ k = b)) (hm : mass (zs.map Ent.fl) + bs.length ≤ 1000000000) :
    Calls Try.prog 38 #[.pointer (some ⟨b, o, none⟩), cv, .int .i64 (k : Int)] w fun e w' => e = .returned (.tuple #[]) ∧ Chg w w' b o F (ap (zs.map Ent.fl) (.app n (bs.take k))) := by
  obtain ⟨kd, nm, ao, L, cap, sz, t, rfl, rfl, rfl, hS⟩ := hV
  have hbw := cell_lt hc
  have hL : L = bs.length := hS.sl.len
  have hcap : L ≤ cap ∧ cap ≤ 9223372036854775807 := by
    obtain ⟨_, _, e, h1, h2⟩ := hS.sl.shape
    simp only [Value.slice.injEq] at e
    obtain ⟨_, e2, rfl⟩ := e
    exact ⟨by omega, h2⟩
  have hb1 : Below w.heap.size w (w.alloc (.cells #[.int .i64 1, .string nm, .slice ao L cap, .int .i64 sz, .string t] 68)) := (Below.refl _ _).alloc (Nat.le_refl _) _
  obtain ⟨m, hmin, HM⟩ : ∃ m : Nat, min (k : Int) (L : Int) = (m : Int) ∧ Hid (m = min k L) := ⟨min k L, by omega, rfl⟩
  have hmin2 : (if (L : Int) < (k : Int) then (L : Int) else (k : Int)) = (m : Int) := by rw [← hmin]; split <;> omega
  have hmin3 : (if L < k then (L : Int) else (k : Int)) = (m : Int) := by rw [← hmin]; split <;> omega
  have hmL : m ≤ L := by have := HM.out; omega
  have hS' : SlA w (.slice ao m cap) (bs.take k) (fun k => F k ∨ k = b) := by
    refine ⟨?_, fun a n' c' e => hS.away a L cap (by simp only [Value.slice.injEq] at e; rw [e.1])⟩
    have h1 := hS.sl.take m (by omega)
    have e : bs.take m = bs.take k := by
      rw [HM.out, hL]
      rcases Nat.le_total k bs.length with h | h
      · rw [Nat.min_eq_left h]
      · rw [Nat.min_eq_right h, List.take_of_length_le (Nat.le_refl _), List.take_of_length_le h]
    rw [e] at h1
    exact h1
  have HA : Hid (∀ w1, Below w.heap.size w w1 → Calls Try.prog 47 #[.pointer (some ⟨b, o, none⟩), .string nm, .slice ao m cap] w1 fun e w' => e = .returned (.tuple #[]) ∧ Hid (Chg w w' b o F (ap (zs.map Ent.fl) (.app nm (bs.take k)))) ∧ Hid (∀ p u, w1.cell? p = some u → p.block ≠ b → ¬ F p.block → w'.cell? p = some u)) := by
    intro w1 hb
    refine (add_any b o v zs F nm _ (bs.take k) w1 (below_cell hb hc) ((below_frozen hb hc).trans hfz) (hF.below hb) hbF hs (hS'.kept (Fr.of_below hb)) (by rw [List.length_take]; omega)).mono ?_
    rintro e w' ⟨rfl, hX⟩
    refine ⟨rfl, hX.from hb hF.lt, fun p u hp hpb hpF => ?_⟩
    obtain ⟨v', _, _, _, hfr⟩ := hX
    exact hfr.cell (by rw [World.cell?_setCell_other _ _ _ _ (fun e => hpb (by rw [← e]))]; exact hp) hpF
  have hsl := fun w' => slice_front ao L cap m hmL hcap.1 w'
  have hmF : ¬ F w.heap.size := fun h => by have := hF.lt _ h; omega
  have hmb : w.heap.size ≠ b := fun e => by omega
  have HB : Hid (_) := hb1
  have hk0 : ¬ ((k : Int) < 0) := by omega
  clear hF hS hS' hs hm HM hb1 hc hfz hmL hL
  go_enter Try.func38, Try.ntmps38
  go_wp2_with fail
  go_region_held (fun w' => w'.cell? ⟨w.heap.size, 1, none⟩ = some (.string nm) ∧ w'.cell? ⟨w.heap.size, 2, none⟩ = some (.slice ao L cap) ∧ (Instr.slice 32 (.slice ao L cap) none (some (.int .i64 (m : Int))) none).run Try.prog w' = .ok (.slice ao m cap) w' ∧ (Instr.sliceAt 32 (.slice ao L cap) none (some (.int .i64 (m : Int))) none).run Try.prog w' = .ok (.slice ao m cap) w')
    (first | exact ⟨by simp, by simp, (hsl _).1, (hsl _).2⟩ | exact ⟨MM.out _ _ (by simp) hmb hmF, MM.out _ _ (by simp) hmb hmF, (hsl _).1, (hsl _).2⟩)
    (first | (go_at_call 47; refine (HA.out _ HB.out.drew).mono ?_; rintro e w6 ⟨rfl, HX, MM⟩))
  go_wp2
  go_end0
  exact ⟨rfl, HX.out⟩

theorem tear_any (b o : Nat) (v : Value) (zs : List Ent) (F : Nat → Prop) (cv : Value) (c : Ch) (k : Int) (w : World) (hc : w.cell? ⟨b, o, none⟩ = some v) (hfz : w.frozen? ⟨b, o, none⟩ = false) (hF : Fol w v zs F) (hbF : ¬ F b) (hs : Srt (zs.map Ent.fl))
    (hV : ChV w cv c (fun k => F k ∨ k = b)) (hm : mass (zs.map Ent.fl) + c.mass ≤ 1000000000) :
    Calls Try.prog 38 #[.pointer (some ⟨b, o, none⟩), cv, .int .i64 k] w fun e w' => e = .returned (.tuple #[]) ∧ Chg w w' b o F (torn (zs.map Ent.fl) c k) := by
  by_cases hk : k < 0
  · exact tear_not b o v zs F cv c k w hc hF hV (Or.inr hk)
  · cases c with
    | app n bs =>
      obtain ⟨q, rfl⟩ : ∃ q : Nat, k = (q : Int) := ⟨k.toNat, by omega⟩
      have e : torn (zs.map Ent.fl) (.app n bs) (q : Int) = ap (zs.map Ent.fl) (.app n (bs.take q)) := by
        simp only [torn, if_neg hk, Int.toNat_natCast]
      rw [e]
      exact tear_go b o v zs F cv n bs q w hc hfz hF hbF hs hV (by simp only [Ch.mass] at hm; omega)
    | cut n q => exact tear_not b o v zs F cv _ k w hc hF hV (Or.inl rfl)
    | rem n => exact tear_not b o v zs F cv _ k w hc hF hV (Or.inl rfl)
    | mov n q => exact tear_not b o v zs F cv _ k w hc hF hV (Or.inl rfl)
end Go.Proofs.Ytleelemcmnlfiaa
namespace Go.Proofs.Ytleelemcmnlfiaa
open Go.RowKit

theorem ext_up {R : Nat → Prop} {w1 w2 w3 : World} (h : w2.heap.size ≤ w3.heap.size) : ∀ k, ext R w1 w2 k → ext R w1 w3 k := fun k hk => by
  rcases hk with hk | hk
  · exact Or.inl hk
  · exact Or.inr ⟨hk.1, by omega⟩
theorem RF.up {w1 w2 w3 : World} {v : Value} {zs : List Ent} {R : Nat → Prop} (h : RF w2 v zs (ext R w1 w2)) (hb : Below w2.heap.size w2 w3) : RF w3 v zs (ext R w1 w3) := by
  refine (h.below hb).mono (ext_up hb.size) (fun k hk => ?_)
  rcases hk with hk | hk
  · exact Nat.lt_of_lt_of_le (h.lt k (Or.inl hk)) hb.size
  · exact hk.2
theorem SlA.up {w1 w2 w3 : World} {v : Value} {bs : List UInt8} {R : Nat → Prop} (h : SlA w2 v bs (fun k => ¬ ext R w1 w2 k)) (hb : Below w2.heap.size w2 w3) : SlA w3 v bs (fun k => ¬ ext R w1 w3 k) :=
  (h.kept (Fr.of_below hb)).mono (fun k hk hE => hk (ext_up hb.size k hE))
/-- From a world behind the call's first to the call's first. -/
theorem RF.from {w w1 w2 : World} {v : Value} {zs : List Ent} {R : Nat → Prop} (h : RF w2 v zs (ext R w1 w2)) (hb : w.heap.size ≤ w1.heap.size) : RF w2 v zs (ext R w w2) := by
  refine h.mono (fun k hk => ?_) (fun k hk => ?_)
  · rcases hk with hk | hk
    · exact Or.inl hk
    · exact Or.inr ⟨by omega, hk.2⟩
  · rcases hk with hk | hk
    · exact h.lt k (Or.inl hk)
    · exact hk.2

set_option maxHeartbeats 4000000 in
set_option maxRecDepth 20000 in
theorem rdo_cut_hit (v : Value) (zs : List Ent) (R : Nat → Prop) (n t : ByteArray) (k : Nat) (aod : Option Addr) (Ld capd : Nat) (zl : List Ent) (z : Ent) (zr : List Ent) (w : World) (h : RF w v zs R) (hh : HitE n zs zl z zr) (hk : k ≤ z.bs.length) (hl : zs.length ≤ 100000000) (hbl : z.bs.length ≤ 1000000000) :
    Calls Try.prog 39 #[v, .agg #[.int .i64 1, .string n, .string t, .int .i64 (k : Int), .slice aod Ld capd]] w fun e w' => Done w w' e R (ap (zs.map Ent.fl) (.cut n k)) := by
  obtain ⟨ao, cap, rfl, hao⟩ := h.shape
  have hlz : zl.length < zs.length := by rw [hh.1]; simp
  obtain ⟨g, rfl⟩ := hao (by omega)
  have hzm : z ∈ zs := by rw [hh.1]; simp
  have hb1 := bel_box w (.cells #[.int .i64 1, .string n, .string t, .int .i64 (k : Int), .slice aod Ld capd] 48)
  have hR1 := h.below hb1
  have HA : Hid (_) := at_hit _ zs R n zl z zr _ hR1 hh (by omega)
  have q0 : (w.alloc (.cells #[.int .i64 1, .string n, .string t, .int .i64 (k : Int), .slice aod Ld capd] 48)).cell? ⟨w.heap.size, 0, none⟩ = some (.int .i64 1) := by rw [cell_of_row _ _ 0 _ _ _ (heap_alloc_new _ _)]; rfl
  have q1 : (w.alloc (.cells #[.int .i64 1, .string n, .string t, .int .i64 (k : Int), .slice aod Ld capd] 48)).cell? ⟨w.heap.size, 1, none⟩ = some (.string n) := by rw [cell_of_row _ _ 1 _ _ _ (heap_alloc_new _ _)]; rfl
  have q3 : (w.alloc (.cells #[.int .i64 1, .string n, .string t, .int .i64 (k : Int), .slice aod Ld capd] 48)).cell? ⟨w.heap.size, 3, none⟩ = some (.int .i64 (k : Int)) := by rw [cell_of_row _ _ 3 _ _ _ (heap_alloc_new _ _)]; rfl
  obtain ⟨c0, c1⟩ := hR1.cell zl.length hlz
  have hzz : zs[zl.length] = z := by simp only [hh.1]; simp
  rw [hzz] at c1
  obtain ⟨aoz, capz, hzd, hcz, _⟩ := (h.data z hzm).sl.shape
  rw [hzd] at c1
  have hS1 := (h.data z hzm).sl.below hb1
  rw [hzd] at hS1
  have hsf := fun w' => slice_front aoz z.bs.length capz k hk hcz w'
  have hT1 := hS1.take k hk
  have hlt' : (zl.length : Int) < (zs.length : Int) := by omega
  have hkL : (k : Int) ≤ (z.bs.length : Int) := by omega
  generalize hw1 : w.alloc (.cells #[.int .i64 1, .string n, .string t, .int .i64 (k : Int), .slice aod Ld capd] 48) = w1 at *
  have HK : Hid (∀ u, Below w1.heap.size w1 u → u.cell? ⟨w.heap.size, 1, none⟩ = some (.string n) ∧ u.cell? ⟨w.heap.size, 3, none⟩ = some (.int .i64 (k : Int)) ∧ u.cell? ⟨g, zl.length * 2 + 1, none⟩ = some (.slice aoz z.bs.length capz) ∧ (Instr.slice 32 (.slice aoz z.bs.length capz) none (some (.int .i64 (k : Int))) none).run Try.prog u = .ok (.slice aoz k capz) u ∧ (Instr.sliceAt 32 (.slice aoz z.bs.length capz) none (some (.int .i64 (k : Int))) none).run Try.prog u = .ok (.slice aoz k capz) u) :=
    fun u hb => ⟨below_cell hb q1, below_cell hb q3, below_cell hb c1, (hsf u).1, (hsf u).2⟩
  have H51 : Hid (∀ u, Below w1.heap.size w1 u → Calls Try.prog 51 #[.slice (some ⟨g, 0, none⟩) zs.length cap, .int .i64 (zl.length : Int)] u fun e w2 => ∃ ao2 N2 cap2, e = .returned (.slice ao2 N2 cap2) ∧ Hid (Below w1.heap.size w1 w2) ∧ Hid (Below u.heap.size u w2 ∧ RF w2 (.slice ao2 N2 cap2) (zl ++ zr) (ext R w1 w2))) := by
    intro u hb
    refine (without_any _ zs R zl z zr u (hR1.below hb) hh.1 (by omega)).mono ?_
    rintro e w2 ⟨v2, rfl, hR2, hb2⟩
    obtain ⟨ao2, N2, cap2, rfl⟩ := own_slice hR2.row
    exact ⟨ao2, N2, cap2, rfl, hb.trans (hb2.mono hb.size), hb2, hR2.from hb.size⟩
  have HAP : Hid (∀ u, Below w1.heap.size w1 u → ∃ ao4 L4 cap4 w3, (∀ ty, (Builtin.append_ #[32, 32] ty #[.slice none 0 0, .slice aoz k capz]).run Try.prog u = .ok (.slice ao4 L4 cap4) w3) ∧ Hid (Below w1.heap.size w1 w3) ∧ Hid (Below u.heap.size u w3 ∧ SlA w3 (.slice ao4 L4 cap4) (z.bs.take k) (fun k => ¬ ext R w1 w3 k))) := by
    intro u hb
    obtain ⟨ao3, L3, cap3, w3, hr3, hO3, hg3⟩ := run_append_any u u.heap.size (.slice none 0 0) (.slice aoz k capz) [] (z.bs.take k) (World.ownsRow_nil _ _ _ _) (hT1.below hb) (by simp; omega) (Nat.le_refl _)
    have hb3 : Below u.heap.size u w3 := (Below.refl _ _).grown hg3 (Nat.le_refl _) (fun k hk => by simp [Value.ownBlock] at hk)
    rw [List.nil_append] at hO3
    exact ⟨ao3, L3, cap3, w3, hr3, hb.trans (hb3.mono hb.size), hb3, SlA.made (own_base hO3 (fun q hq => Nat.le_trans hb.size (hO3.lt q hq).1))⟩
  have H52 : Hid (∀ u v2 ao4 L4 cap4, Below w1.heap.size w1 u → RF u v2 (zl ++ zr) (ext R w1 u) → SlA u (.slice ao4 L4 cap4) (z.bs.take k) (fun k => ¬ ext R w1 u k) → Calls Try.prog 52 #[v2, .agg #[.string n, .slice ao4 L4 cap4]] u fun e w5 => ∃ ao5 N5 cap5, e = .returned (.slice ao5 N5 cap5) ∧ Hid (Below w1.heap.size w1 w5) ∧ Hid (Done w w5 (.returned (.slice ao5 N5 cap5)) R (ap (zs.map Ent.fl) (.cut n k)))) := by
    intro u v2 ao4 L4 cap4 hb hR hS
    have hlen2 : (zl ++ zr).length ≤ 100000000 := by
      have : zs.length = (zl ++ z :: zr).length := by rw [hh.1]
      simp at this ⊢
      omega
    refine (with_any v2 (zl ++ zr) (ext R w1 u) n _ (z.bs.take k) zl zr u hR ⟨rfl, hh.2.2.1, hh.2.2.2⟩ hS hlen2).mono ?_
    rintro e w5 ⟨v5, rfl, hR5, hb5⟩
    obtain ⟨ao5, N5, cap5, rfl⟩ := own_slice hR5.row
    have k5 : Below w1.heap.size w1 w5 := hb.trans (hb5.mono hb.size)
    have k5w : Below w.heap.size w w5 := hb1.trans (k5.mono hb1.size)
    refine ⟨ao5, N5, cap5, rfl, k5, ao5, N5, cap5, _, rfl, hR5.mono (fun j hj => ?_) (ext_lt h.lt k5w.size), ?_, k5w⟩
    · have h1 := hb1.size
      have h2 := hb.size
      have h3 := hb5.size
      rcases hj with (hj | hj) | hj
      · exact Or.inl hj
      · exact Or.inr ⟨by omega, by omega⟩
      · exact Or.inr ⟨by omega, hj.2⟩
    · have hi := hh.hit
      simp only [ap, hi.lookE, hi.insE]
      simp [Ent.fl]
  have hbn : ∀ nq, Below w1.heap.size w1 (w1.drewN nq) := fun nq => ⟨rfl, rfl, rfl, Nat.le_refl _, fun _ _ => rfl⟩
  clear hR1 hS1 hzd hzz hb1 h hbl hl hao hzm hT1 hcz hk hsf
  go_enter Try.func39, Try.ntmps39
  go_wp2_with (go_at_call 41; refine Calls.mono HA.out ?_; rintro e w' ⟨rfl, hw⟩; have hw' := hw.symm; subst hw')
  go_big_quiet (fail)
  go_wp2_with fail
  have hbd : Below w1.heap.size w1 (w1.drewN nq).drew := (hbn nq).drew
  clear hbn q0 q1 q3 c0 c1 HA hw1
  generalize w1.drewN nq = u1 at *
  go_region_held_law (fun u => u.cell? ⟨w.heap.size, 1, none⟩ = some (.string n) ∧ u.cell? ⟨w.heap.size, 3, none⟩ = some (.int .i64 (k : Int)) ∧ u.cell? ⟨g, zl.length * 2 + 1, none⟩ = some (.slice aoz z.bs.length capz) ∧ (Instr.slice 32 (.slice aoz z.bs.length capz) none (some (.int .i64 (k : Int))) none).run Try.prog u = .ok (.slice aoz k capz) u ∧ (Instr.sliceAt 32 (.slice aoz z.bs.length capz) none (some (.int .i64 (k : Int))) none).run Try.prog u = .ok (.slice aoz k capz) u)
    (first | exact HK.out _ hbd | exact HK.out _ hb2.out | exact HK.out _ hb3.out | exact HK.out _ hb5.out)
    (first
      | (go_at_call 51; refine (H51.out _ hbd).mono ?_; rintro e w2 ⟨ao2, N2, cap2, rfl, hb2, HR2⟩)
      | (go_at_call 51; refine (H51.out _ hb3.out).mono ?_; rintro e w2 ⟨ao2, N2, cap2, rfl, hb2, HR2⟩)
      | (obtain ⟨ao4, L4, cap4, w3, hr3, hb3, HO3⟩ := HAP.out _ hbd; refine step_append_run (by rfl) (.const (.slice none 0 0)) (.tmp 96) 32 32 (by rfl) _ _ (by rfl) (by rfl) (hr3 _) ?_)
      | (obtain ⟨ao4, L4, cap4, w3, hr3, hb3, HO3⟩ := HAP.out _ hb2.out; refine step_append_run (by rfl) (.const (.slice none 0 0)) (.tmp 96) 32 32 (by rfl) _ _ (by rfl) (by rfl) (hr3 _) ?_)
      | (go_at_call 52; refine (H52.out w3 _ _ _ _ hb3.out (HR2.out.2.up HO3.out.1) HO3.out.2).mono ?_; rintro e w5 ⟨ao5, N5, cap5, rfl, hb5, HX⟩)
      | (go_at_call 52; refine (H52.out w2 _ _ _ _ hb2.out HR2.out.2 (HO3.out.2.up HR2.out.1)).mono ?_; rintro e w5 ⟨ao5, N5, cap5, rfl, hb5, HX⟩))
  all_goals go_wp2
  all_goals go_ret
  all_goals exact HX.out
end Go.Proofs.Ytleelemcmnlfiaa

/- The walk of a folder's move. -/
import Derived.Test.YtnbdkojdddplkaaDoorDkMove
import Derived.Deep.RegionHeld
namespace Go.Proofs.YtnbdkojdddplkaaDoor.Dk
open Go.RowKit

theorem toList_data (a : ByteArray) : a.toList = a.data.toList := ByteArray.toList_eq a
theorem names_ne {a b : ByteArray} (h : a ≠ b) : (a.toList == b.toList) = false := by
  rw [beq_eq_false_iff_ne]
  intro e
  rw [toList_data, toList_data] at e
  obtain ⟨⟨la⟩⟩ := a
  obtain ⟨⟨lb⟩⟩ := b
  simp at e
  exact h (by rw [e])
theorem names_eq (a b : ByteArray) : (a.toList == b.toList) = decide (a = b) := by
  by_cases h : a = b
  · subst h; simp
  · rw [names_ne h]; simp [h]

set_option maxHeartbeats 1000000 in
theorem move_miss (b o : Nat) (v : Value) (zs : List Ent) (F : Nat → Prop) (n t : ByteArray) (zl zr : List Ent) (w : World) (hc : w.cell? ⟨b, o, none⟩ = some v) (hF : Fol w v zs F) (hh : MissE n zs zl zr) (hm : zs.length ≤ 1000000000) :
    Calls Tryd.prog 65 #[.pointer (some ⟨b, o, none⟩), .string n, .string t] w fun e w' => e = .returned (.tuple #[]) ∧ Below w.heap.size w w' := by
  have HC : Hid (_) := find_miss v zs F n zl zr w hF hh hm
  obtain ⟨ao, N, cap, rfl⟩ := own_slice hF.row
  clear hF hh
  go_enter Tryd.func65, Tryd.ntmps65
  go_wp2_with (go_at_call 58; refine Calls.mono HC.out ?_; rintro e w1 ⟨rfl, hb1⟩)
  exact bodyPost_ret (results_none rfl _ _ _) rfl ⟨rfl, hb1⟩

set_option maxHeartbeats 1000000 in
theorem move_same (b o : Nat) (v : Value) (zs : List Ent) (F : Nat → Prop) (n : ByteArray) (zl : List Ent) (z : Ent) (zr : List Ent) (w : World) (hc : w.cell? ⟨b, o, none⟩ = some v) (hF : Fol w v zs F) (hh : HitE n zs zl z zr) (hm : zs.length ≤ 1000000000) :
    Calls Tryd.prog 65 #[.pointer (some ⟨b, o, none⟩), .string n, .string n] w fun e w' => e = .returned (.tuple #[]) ∧ Below w.heap.size w w' := by
  have HC : Hid (_) := find_hit v zs F n zl z zr w hF hh hm
  obtain ⟨ao, N, cap, rfl⟩ := own_slice hF.row
  clear hF hh
  go_enter Tryd.func65, Tryd.ntmps65
  go_wp2_with (go_at_call 58; refine Calls.mono HC.out ?_; rintro e w1 ⟨rfl, hb1⟩)
  exact bodyPost_ret (results_none rfl _ _ _) rfl ⟨rfl, hb1⟩

set_option maxHeartbeats 2000000 in
set_option maxRecDepth 20000 in
theorem move_go (b o : Nat) (v : Value) (zs : List Ent) (F : Nat → Prop) (n t : ByteArray) (zl : List Ent) (z : Ent) (zr : List Ent) (w : World) (hc : w.cell? ⟨b, o, none⟩ = some v) (hfz : w.frozen? ⟨b, o, none⟩ = false) (hF : Fol w v zs F) (hbF : ¬ F b) (hs : Srt (zs.map Ent.fl)) (hh : HitE n zs zl z zr) (hnt : n ≠ t) (hm : zs.length ≤ 1000000000) :
    Calls Tryd.prog 65 #[.pointer (some ⟨b, o, none⟩), .string n, .string t] w fun e w' => e = .returned (.tuple #[]) ∧ Chg w w' b o F (ins ⟨t, z.bs⟩ (del t (del n (zs.map Ent.fl)))) := by
  have HC : Hid (_) := find_hit v zs F n zl z zr w hF hh hm
  have hbw : b < w.heap.size := cell_lt hc
  have hzm : z ∈ zs := by rw [hh.1]; simp
  have hzn := hh.2.1
  have hdat := hF.data z hzm
  have hnt' : (n.toList == t.toList) = false := names_ne hnt
  have hmid : Fol w v (zl ++ z :: zr) F := hh.1 ▸ hF
  obtain ⟨g, N, cap, rfl, hk1, hk2, hk3, hk4, hk5, hk6⟩ := shape_mid hmid
  obtain ⟨aod, Ld, capd, hd⟩ := own_slice hdat
  rw [hd] at hk6
  have HF : Hid (_) := hF
  have HD : Hid (w.ownsRow 0 5 1 z.dv z.bs.length (cells8 z.bs)) := hdat
  have Hd : Hid (z.dv = .slice aod Ld capd) := hd
  have HM : Hid (zs.length ≤ 1000000000) := hm
  have HS : Hid (Srt (zs.map Ent.fl)) := hs
  have hgd : ¬ F b := hbF
  -- the two removals and the search
  have HR : Hid (∀ w2, Below w.heap.size w w2 → Calls Tryd.prog 64 #[.pointer (some ⟨b, o, none⟩), .string n] w2 fun e w3 => e = .returned (.tuple #[]) ∧ ∃ v3 zs3, Hid ((∀ x ∈ zs3, x ∈ zs) ∧ zs3.length ≤ zs.length ∧ zs3.map Ent.fl = del n (zs.map Ent.fl) ∧ Fol w3 v3 zs3 F ∧ v3.ownBlock = some g ∧ Fr (fun k => some g = some k) (w2.setCell ⟨b, o, none⟩ v3) w3 ∧ (∀ x ∈ zs3, Apart x z))) := by
    intro w2 hb
    have hF2 := hF.below hb
    refine (remove_all b o _ zs F n w2 (below_cell hb hc) ((below_frozen hb hc).trans hfz) hF2 hbF hs hm).mono ?_
    rintro e w3 ⟨rfl, v3, ul, ur, h1, h2, h3, h4, h5, h6, h7, h8⟩
    exact ⟨rfl, v3, ul ++ ur, h2, h3, h4, h5, h6, h7, fun x hx => h8 z hzm hzn x hx⟩
  have HR2 : Hid (∀ w2, Below w.heap.size w w2 → ∀ w3 v3 zs3, Hid ((∀ x ∈ zs3, x ∈ zs) ∧ zs3.length ≤ zs.length ∧ zs3.map Ent.fl = del n (zs.map Ent.fl) ∧ Fol w3 v3 zs3 F ∧ v3.ownBlock = some g ∧ Fr (fun k => some g = some k) (w2.setCell ⟨b, o, none⟩ v3) w3 ∧ (∀ x ∈ zs3, Apart x z)) →
      Calls Tryd.prog 64 #[.pointer (some ⟨b, o, none⟩), .string t] w3 fun e w4 => e = .returned (.tuple #[]) ∧ ∃ v4 ul ur, w4.cell? ⟨b, o, none⟩ = some v4 ∧ w4.frozen? ⟨b, o, none⟩ = false ∧ Hid (MissE t (ul ++ ur) ul ur ∧ (ul ++ ur).length ≤ zs.length ∧ (ul ++ ur).map Ent.fl = del t (del n (zs.map Ent.fl)) ∧ Fol w4 v4 (ul ++ ur) F ∧ Fr (fun k => some g = some k) (w2.setCell ⟨b, o, none⟩ v4) w4 ∧ (∀ x ∈ ul ++ ur, Apart x z) ∧ w4.ownsRow 0 5 1 z.dv z.bs.length (cells8 z.bs) ∧ v4.ownBlock = some g)) := by
    intro w2 hb w3 v3 zs3 hX
    obtain ⟨g1, g2, g3, g4, g5, g6, g7⟩ := hX.out
    have hgb : ¬ some g = some b := fun e => hbF (by cases e; exact hk4)
    have hat := g6.at (below_cell hb hc) hgb
    have hfz2 := (below_frozen hb hc).trans hfz
    refine (remove_all b o v3 zs3 F t w3 hat.1 (hat.2.trans hfz2) g4 hbF (by rw [g3]; exact srt_del n hs) (by omega)).mono ?_
    rintro e w4 ⟨rfl, v4, ul, ur, h1, h2, h3, h4, h5, h6, h7, h8⟩
    have h7' := g6.then (h7.mono (G := fun k => some g = some k) (fun k _ hk => by rw [← g5]; exact hk)) (fun _ _ h => h)
    have hat4 := h7'.at (below_cell hb hc) hgb
    have hd2 : w2.ownsRow 0 5 1 z.dv z.bs.length (cells8 z.bs) := own_kept hdat (Fr.of_below (F := fun _ => False) hb) (fun _ _ => id)
    have hd3 := own_kept hd2 (Fr.one w2 b o v4) (fun k hk e => hbF (e ▸ hF.dataIn z hzm k hk))
    exact ⟨rfl, v4, ul, ur, hat4.1, hat4.2.trans hfz2, h1, by omega, by rw [h4, g3], h5, h7', fun x hx => g7 x (h2 x hx), own_kept hd3 h7' (fun k hk e => by cases e; exact own_ne hF.row hdat (by decide) rfl hk), h6.trans g5⟩
  have hgb0 : ¬ (g = b) := fun e => hbF (e ▸ hk4)
  have HI : Hid (∀ w2, Below w.heap.size w w2 → ∀ (w4 : World) (v4 : Value) (ul ur : List Ent), w4.cell? ⟨b, o, none⟩ = some v4 → w4.frozen? ⟨b, o, none⟩ = false → Hid (MissE t (ul ++ ur) ul ur ∧ (ul ++ ur).length ≤ zs.length ∧ (ul ++ ur).map Ent.fl = del t (del n (zs.map Ent.fl)) ∧ Fol w4 v4 (ul ++ ur) F ∧ Fr (fun k => some g = some k) (w2.setCell ⟨b, o, none⟩ v4) w4 ∧ (∀ x ∈ ul ++ ur, Apart x z) ∧ w4.ownsRow 0 5 1 z.dv z.bs.length (cells8 z.bs) ∧ v4.ownBlock = some g) →
      ∀ w5, Below w4.heap.size w4 w5 → Calls Tryd.prog 81 #[v4, .int .i64 ul.length, .slice (some ⟨w5.heap.size, 0, none⟩) 1 1] (w5.alloc (.cells #[.string t, z.dv] 99)) fun e w6 => ∃ v6, e = .returned v6 ∧ (∃ ao6 N6 cap6, v6 = .slice ao6 N6 cap6) ∧ w6.cell? ⟨b, o, none⟩ = some v4 ∧ w6.frozen? ⟨b, o, none⟩ = false ∧ Hid (∀ p u, w4.cell? p = some u → ¬ F p.block → w6.cell? p = some u) ∧ Hid (Chg w (w6.setCell ⟨b, o, none⟩ v6) b o F (ins ⟨t, z.bs⟩ (del t (del n (zs.map Ent.fl)))))) := by
    intro w2 hb w4 v4 ul ur hc4 hf4 hX w5 hb5
    obtain ⟨x1, x2, x3, x4, x5, x6, x7, x8⟩ := hX.out
    have hs4 : w.heap.size ≤ w4.heap.size := by have h1 := x5.size; have h2 := hb.size; rw [setCell_size] at h1; omega
    have hb6 := hb5.alloc hb5.size (.cells #[.string t, z.dv] 99)
    have hF6 := x4.below hb6
    have hne : v4.ownBlock ≠ some w5.heap.size := fun e => by have := x4.lt _ (x4.rowIn _ e); have := hb5.size; omega
    refine (insert_any v4 _ ul.length w5.heap.size _ (.string t) z.dv _ hF6.row (by simp) (by omega) (heap_alloc_new _ _) hne rfl (own_one hdat) hF6.ones).mono ?_
    rintro e w6 ⟨v6, rfl, hrow, hg, hat⟩
    have hgF : ∀ k, v4.ownBlock = some k → F k := x4.rowIn
    have hfr6 : Fr F w4 w6 := (Fr.of_below hb6).trans (Fr.of_grown hg hgF) (fun _ _ h => h)
    have hsz6 := hfr6.size
    have hc6 := hfr6.cell hc4 hbF
    have hf6 := (hfr6.frozen hc4 hbF).trans hf4
    have hd6 : (w5.alloc (.cells #[.string t, z.dv] 99)).ownsRow 0 5 1 z.dv z.bs.length (cells8 z.bs) := own_kept x7 (Fr.of_below (F := fun _ => False) hb6) (fun _ _ => id)
    have hI := hF6.inserted t z.dv z.bs hrow hg (by rcases hat with h | h; exact Or.inl h; exact Or.inr ⟨_, h, Nat.le_refl _⟩) hd6 (fun k hk => hF.dataIn z hzm k hk) (fun x hx => x6 x hx)
    refine ⟨v6, rfl, own_slice hrow, hc6, hf6, fun p u hp hF' => hfr6.cell hp hF', v6, ul ++ ⟨t, z.dv, z.bs⟩ :: ur, ?_, ?_, ?_⟩
    · have hI2 := hI.kept (Fr.one w6 b o v6) (fun k hk e => by
        subst e
        rcases hk with hk | hk
        · exact hbF hk
        · have := hb6.size; omega)
      refine hI2.mono (fun k hk => ?_) (ext_lt hF.lt (by rw [setCell_size]; omega))
      rcases hk with hk | hk
      · exact Or.inl hk
      · exact Or.inr ⟨by have := hb6.size; omega, by rw [setCell_size]; exact hk.2⟩
    · have := x1.miss.insE (z.bs)
      rw [x3] at this
      rw [this]
      simp [Ent.fl]
    · have h4 : Fr F (w.setCell ⟨b, o, none⟩ v4) w4 := ((Fr.of_below hb).set_both _ _).trans (x5.mono (G := F) (fun k _ hk => by cases hk; exact hk4)) (fun _ _ h => h)
      have h6 : Fr F (w.setCell ⟨b, o, none⟩ v4) w6 := h4.trans hfr6 (fun _ _ h => h)
      exact h6.then (G := F) (Fr.refl _ _) (fun _ _ h => h)
  clear hF hdat hh hs hzm hmid hd hm
  go_enter Tryd.func65, Tryd.ntmps65
  go_wp2_with fail
  (go_at_call 58; refine Calls.mono HC.out ?_; rintro e w1 ⟨rfl, hb1⟩; have hcw := below_cell hb1 hc; have c1 := below_cell hb1 hk6)
  have hb2 := hb1.alloc hb1.size (.cells #[.string t, .slice aod Ld capd] 99)
  have hmg : ¬ some g = some w1.heap.size := fun e => by simp at e; have := HF.out.lt g hk4; have := hb1.size; omega
  have hmb : w1.heap.size ≠ b := fun e => by have := hb1.size; omega
  go_wp2_with fail
  (go_at_call 64; refine (HR.out _ hb2).mono ?_; rintro e w3 ⟨rfl, v3, zs3, HX3⟩)
  go_wp2_with fail
  (go_at_call 64; refine (HR2.out _ hb2 w3 v3 zs3 HX3).mono ?_; rintro e w4 ⟨rfl, v4, ul, ur, hc4, hf4, HX4⟩; have HC4 : Hid (_) := find_miss _ _ F t ul ur w4 HX4.out.2.2.2.1 HX4.out.1 (Nat.le_trans HX4.out.2.1 HM.out); have hm4 : w4.heap[w1.heap.size]? = some (.cells #[.string t, .slice aod Ld capd] 99 (0, 0)) := by
    rw [HX4.out.2.2.2.2.1.block w1.heap.size (by rw [setCell_size]; simp) hmg, Below.heap_setCell _ _ _ _ hmb]
    exact heap_alloc_new _ _)
  have m0 := cell_of_row w4 _ 0 _ _ _ hm4
  have m1 := cell_of_row w4 _ 1 _ _ _ hm4
  obtain ⟨ao4, N4, cap4, rfl⟩ := own_slice HX4.out.2.2.2.1.row
  have HI4 : Hid (_) := HI.out _ hb2 w4 _ ul ur hc4 hf4 HX4
  rw [Hd.out] at HI4
  simp at m0 m1
  clear hm4
  go_wp2_with fail
  (go_at_call 58; refine Calls.mono HC4.out ?_; rintro e w5 ⟨rfl, hb5⟩; have hc5 := below_cell hb5 hc4; have hf5 := (below_frozen hb5 hc4).trans hf4; have m05 := below_cell hb5 m0; have m15 := below_cell hb5 m1; have HI5 : Hid (_) := HI4.out w5.drew hb5.drew)
  have hmF : ¬ F w1.heap.size := fun h => by have := HF.out.lt _ h; have := hb1.size; omega
  have M0 : Hid (_) := m0
  have M1 : Hid (_) := m1
  clear hc4 hf4 m0 m1 hcw c1
  go_wp2_with fail
  clear HI4 HI HR HR2 HX3 HX4 HC4 HC M0 M1 hmF HM HS HF HD Hd hb2 hmg hb5 hk5 hk6 hk1 hk2 hk3 hk4 hnt hnt' hbF hgd hzn hc hfz hb1
  have hca1 : ∀ ob, (w5.alloc ob).cell? ⟨b, o, none⟩ = some (.slice ao4 N4 cap4) := fun ob => below_cell ((Below.refl _ _).alloc (Nat.le_refl _) ob) hc5
  have hca2 : ∀ ob, (w5.drew.alloc ob).cell? ⟨b, o, none⟩ = some (.slice ao4 N4 cap4) := hca1
  go_region_with (go_at_call 81; refine Calls.mono HI5.out ?_; rintro e w6 ⟨v6, rfl, ⟨ao6, N6, cap6, rfl⟩, hc6, hf6, MM, HF6⟩)
  all_goals go_wp2
  all_goals go_end0
  all_goals exact ⟨rfl, HF6.out⟩

/-- A folder's move. -/
theorem move_any (b o : Nat) (v : Value) (zs : List Ent) (F : Nat → Prop) (n t : ByteArray) (w : World) (hc : w.cell? ⟨b, o, none⟩ = some v) (hfz : w.frozen? ⟨b, o, none⟩ = false) (hF : Fol w v zs F) (hbF : ¬ F b) (hs : Srt (zs.map Ent.fl)) (hm : zs.length ≤ 1000000000) :
    Calls Tryd.prog 65 #[.pointer (some ⟨b, o, none⟩), .string n, .string t] w fun e w' => e = .returned (.tuple #[]) ∧ Chg w w' b o F (ap (zs.map Ent.fl) (.mov n t)) := by
  have hsame : ∀ w' : World, Below w.heap.size w w' → Chg w w' b o F (zs.map Ent.fl) := fun w' h1 => ⟨v, zs, (hF.below h1).mono (fun _ h => Or.inl h) (ext_lt hF.lt h1.size), rfl, Fr.of_self hc (Fr.of_below h1)⟩
  rcases splitE n zs hs with ⟨zl, z, zr, hh⟩ | ⟨zl, zr, hh⟩
  · by_cases hnt : n = t
    · subst hnt
      refine (move_same b o v zs F n zl z zr w hc hF hh hm).mono ?_
      rintro e w' ⟨rfl, h1⟩
      refine ⟨rfl, ?_⟩
      simp only [ap]
      rw [hh.hit.lookE]
      simpa using hsame w' h1
    · refine (move_go b o v zs F n t zl z zr w hc hfz hF hbF hs hh hnt hm).mono ?_
      rintro e w' ⟨rfl, h1⟩
      refine ⟨rfl, ?_⟩
      simp only [ap]
      rw [hh.hit.lookE]
      simpa [hnt, Ent.fl] using h1
  · refine (move_miss b o v zs F n t zl zr w hc hF hh hm).mono ?_
    rintro e w' ⟨rfl, h1⟩
    refine ⟨rfl, ?_⟩
    simp only [ap]
    rw [hh.miss.lookE]
    exact hsame w' h1
end Go.Proofs.YtnbdkojdddplkaaDoor.Dk

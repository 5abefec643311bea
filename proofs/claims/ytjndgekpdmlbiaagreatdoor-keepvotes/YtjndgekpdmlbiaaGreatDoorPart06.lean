/- The walk of a folder's move. The walks of a folder's do and tear. What a disk is in memory: laws on worlds alone. What a name may be; rooms. The walks of a disk's New, Used, Waiting, Read, Names, Room. -/
import Derived.Test.YtjndgekpdmlbiaaGreatDoorPart05
import Derived.Deep.RegionHeld
import Derived.Test.YtjndgekpdmlbiaaGreatDoorPart04
import Derived.Test.YtjndgekpdmlbiaaGreatDoorRows
import Derived.WalkKit
import Derived.BigQuiet
namespace Go.Proofs.YtjndgekpdmlbiaaGreatDoor.Dk
open Go.RowKit

theorem toList_data (a : ByteArray) : a.toList = a.data.toList := ByteArray.toList_eq a
theorem names_ne {a b : ByteArray} (h : a ≠ b) : (a.toList == b.toList) = false := by
  rw [beq_eq_false_iff_ne]
  intro e
  rw [toList_data, toList_data] at e
  obtain ⟨⟨la⟩⟩ := a
  obtain ⟨⟨lb⟩⟩ := b
  simp at e
  exact h (by rw [e])
theorem names_eq (a b : ByteArray) : (a.toList == b.toList) = decide (a = b) := by
  by_cases h : a = b
  · subst h; simp
  · rw [names_ne h]; simp [h]

set_option maxHeartbeats 1000000 in
theorem move_miss (b o : Nat) (v : Value) (zs : List Ent) (F : Nat → Prop) (n t : ByteArray) (zl zr : List Ent) (w : World) (hc : w.cell? ⟨b, o, none⟩ = some v) (hF : Fol w v zs F) (hh : MissE n zs zl zr) (hm : zs.length ≤ 1000000000) :
    Calls Tryz.prog 62 #[.pointer (some ⟨b, o, none⟩), .string n, .string t] w fun e w' => e = .returned (.tuple #[]) ∧ Below w.heap.size w w' := by
  have HC : Hid (_) := find_miss v zs F n zl zr w hF hh hm
  obtain ⟨ao, N, cap, rfl⟩ := own_slice hF.row
  clear hF hh
  go_enter Tryz.func62, Tryz.ntmps62
  go_wp2_with (go_at_call 97; refine Calls.mono HC.out ?_; rintro e w1 ⟨rfl, hb1⟩)
  exact bodyPost_ret (results_none rfl _ _ _) rfl ⟨rfl, hb1⟩

set_option maxHeartbeats 1000000 in
theorem move_same (b o : Nat) (v : Value) (zs : List Ent) (F : Nat → Prop) (n : ByteArray) (zl : List Ent) (z : Ent) (zr : List Ent) (w : World) (hc : w.cell? ⟨b, o, none⟩ = some v) (hF : Fol w v zs F) (hh : HitE n zs zl z zr) (hm : zs.length ≤ 1000000000) :
    Calls Tryz.prog 62 #[.pointer (some ⟨b, o, none⟩), .string n, .string n] w fun e w' => e = .returned (.tuple #[]) ∧ Below w.heap.size w w' := by
  have HC : Hid (_) := find_hit v zs F n zl z zr w hF hh hm
  obtain ⟨ao, N, cap, rfl⟩ := own_slice hF.row
  clear hF hh
  go_enter Tryz.func62, Tryz.ntmps62
  go_wp2_with (go_at_call 97; refine Calls.mono HC.out ?_; rintro e w1 ⟨rfl, hb1⟩)
  exact bodyPost_ret (results_none rfl _ _ _) rfl ⟨rfl, hb1⟩

set_option maxHeartbeats 2000000 in
set_option maxRecDepth 20000 in
theorem move_go (b o : Nat) (v : Value) (zs : List Ent) (F : Nat → Prop) (n t : ByteArray) (zl : List Ent) (z : Ent) (zr : List Ent) (w : World) (hc : w.cell? ⟨b, o, none⟩ = some v) (hfz : w.frozen? ⟨b, o, none⟩ = false) (hF : Fol w v zs F) (hbF : ¬ F b) (hs : Srt (zs.map Ent.fl)) (hh : HitE n zs zl z zr) (hnt : n ≠ t) (hm : zs.length ≤ 1000000000) :
    Calls Tryz.prog 62 #[.pointer (some ⟨b, o, none⟩), .string n, .string t] w fun e w' => e = .returned (.tuple #[]) ∧ Chg w w' b o F (ins ⟨t, z.bs⟩ (del t (del n (zs.map Ent.fl)))) := by
  have HC : Hid (_) := find_hit v zs F n zl z zr w hF hh hm
  have hbw : b < w.heap.size := cell_lt hc
  have hzm : z ∈ zs := by rw [hh.1]; simp
  have hzn := hh.2.1
  have hdat := hF.data z hzm
  have hnt' : (n.toList == t.toList) = false := names_ne hnt
  have hmid : Fol w v (zl ++ z :: zr) F := hh.1 ▸ hF
  obtain ⟨g, N, cap, rfl, hk1, hk2, hk3, hk4, hk5, hk6⟩ := shape_mid hmid
  obtain ⟨aod, Ld, capd, hd⟩ := own_slice hdat
  rw [hd] at hk6
  have HF : Hid (_) := hF
  have HD : Hid (w.ownsRow 0 5 1 z.dv z.bs.length (cells8 z.bs)) := hdat
  have Hd : Hid (z.dv = .slice aod Ld capd) := hd
  have HM : Hid (zs.length ≤ 1000000000) := hm
  have HS : Hid (Srt (zs.map Ent.fl)) := hs
  have hgd : ¬ F b := hbF
  -- the two removals and the search
  have HR : Hid (∀ w2, Below w.heap.size w w2 → Calls Tryz.prog 61 #[.pointer (some ⟨b, o, none⟩), .string n] w2 fun e w3 => e = .returned (.tuple #[]) ∧ ∃ v3 zs3, Hid ((∀ x ∈ zs3, x ∈ zs) ∧ zs3.length ≤ zs.length ∧ zs3.map Ent.fl = del n (zs.map Ent.fl) ∧ Fol w3 v3 zs3 F ∧ v3.ownBlock = some g ∧ Fr (fun k => some g = some k) (w2.setCell ⟨b, o, none⟩ v3) w3 ∧ (∀ x ∈ zs3, Apart x z))) := by
    intro w2 hb
    have hF2 := hF.below hb
    refine (remove_all b o _ zs F n w2 (below_cell hb hc) ((below_frozen hb hc).trans hfz) hF2 hbF hs hm).mono ?_
    rintro e w3 ⟨rfl, v3, ul, ur, h1, h2, h3, h4, h5, h6, h7, h8⟩
    exact ⟨rfl, v3, ul ++ ur, h2, h3, h4, h5, h6, h7, fun x hx => h8 z hzm hzn x hx⟩
  have HR2 : Hid (∀ w2, Below w.heap.size w w2 → ∀ w3 v3 zs3, Hid ((∀ x ∈ zs3, x ∈ zs) ∧ zs3.length ≤ zs.length ∧ zs3.map Ent.fl = del n (zs.map Ent.fl) ∧ Fol w3 v3 zs3 F ∧ v3.ownBlock = some g ∧ Fr (fun k => some g = some k) (w2.setCell ⟨b, o, none⟩ v3) w3 ∧ (∀ x ∈ zs3, Apart x z)) →
      Calls Tryz.prog 61 #[.pointer (some ⟨b, o, none⟩), .string t] w3 fun e w4 => e = .returned (.tuple #[]) ∧ ∃ v4 ul ur, w4.cell? ⟨b, o, none⟩ = some v4 ∧ w4.frozen? ⟨b, o, none⟩ = false ∧ Hid (MissE t (ul ++ ur) ul ur ∧ (ul ++ ur).length ≤ zs.length ∧ (ul ++ ur).map Ent.fl = del t (del n (zs.map Ent.fl)) ∧ Fol w4 v4 (ul ++ ur) F ∧ Fr (fun k => some g = some k) (w2.setCell ⟨b, o, none⟩ v4) w4 ∧ (∀ x ∈ ul ++ ur, Apart x z) ∧ w4.ownsRow 0 5 1 z.dv z.bs.length (cells8 z.bs) ∧ v4.ownBlock = some g)) := by
    intro w2 hb w3 v3 zs3 hX
    obtain ⟨g1, g2, g3, g4, g5, g6, g7⟩ := hX.out
    have hgb : ¬ some g = some b := fun e => hbF (by cases e; exact hk4)
    have hat := g6.at (below_cell hb hc) hgb
    have hfz2 := (below_frozen hb hc).trans hfz
    refine (remove_all b o v3 zs3 F t w3 hat.1 (hat.2.trans hfz2) g4 hbF (by rw [g3]; exact srt_del n hs) (by omega)).mono ?_
    rintro e w4 ⟨rfl, v4, ul, ur, h1, h2, h3, h4, h5, h6, h7, h8⟩
    have h7' := g6.then (h7.mono (G := fun k => some g = some k) (fun k _ hk => by rw [← g5]; exact hk)) (fun _ _ h => h)
    have hat4 := h7'.at (below_cell hb hc) hgb
    have hd2 : w2.ownsRow 0 5 1 z.dv z.bs.length (cells8 z.bs) := own_kept hdat (Fr.of_below (F := fun _ => False) hb) (fun _ _ => id)
    have hd3 := own_kept hd2 (Fr.one w2 b o v4) (fun k hk e => hbF (e ▸ hF.dataIn z hzm k hk))
    exact ⟨rfl, v4, ul, ur, hat4.1, hat4.2.trans hfz2, h1, by omega, by rw [h4, g3], h5, h7', fun x hx => g7 x (h2 x hx), own_kept hd3 h7' (fun k hk e => by cases e; exact own_ne hF.row hdat (by decide) rfl hk), h6.trans g5⟩
  have hgb0 : ¬ (g = b) := fun e => hbF (e ▸ hk4)
  have HI : Hid (∀ w2, Below w.heap.size w w2 → ∀ (w4 : World) (v4 : Value) (ul ur : List Ent), w4.cell? ⟨b, o, none⟩ = some v4 → w4.frozen? ⟨b, o, none⟩ = false → Hid (MissE t (ul ++ ur) ul ur ∧ (ul ++ ur).length ≤ zs.length ∧ (ul ++ ur).map Ent.fl = del t (del n (zs.map Ent.fl)) ∧ Fol w4 v4 (ul ++ ur) F ∧ Fr (fun k => some g = some k) (w2.setCell ⟨b, o, none⟩ v4) w4 ∧ (∀ x ∈ ul ++ ur, Apart x z) ∧ w4.ownsRow 0 5 1 z.dv z.bs.length (cells8 z.bs) ∧ v4.ownBlock = some g) →
      ∀ w5, Below w4.heap.size w4 w5 → Calls Tryz.prog 98 #[v4, .int .i64 ul.length, .slice (some ⟨w5.heap.size, 0, none⟩) 1 1] (w5.alloc (.cells #[.string t, z.dv] 113)) fun e w6 => ∃ v6, e = .returned v6 ∧ (∃ ao6 N6 cap6, v6 = .slice ao6 N6 cap6) ∧ w6.cell? ⟨b, o, none⟩ = some v4 ∧ w6.frozen? ⟨b, o, none⟩ = false ∧ Hid (∀ p u, w4.cell? p = some u → ¬ F p.block → w6.cell? p = some u) ∧ Hid (Chg w (w6.setCell ⟨b, o, none⟩ v6) b o F (ins ⟨t, z.bs⟩ (del t (del n (zs.map Ent.fl)))))) := by
    intro w2 hb w4 v4 ul ur hc4 hf4 hX w5 hb5
    obtain ⟨x1, x2, x3, x4, x5, x6, x7, x8⟩ := hX.out
    have hs4 : w.heap.size ≤ w4.heap.size := by have h1 := x5.size; have h2 := hb.size; rw [setCell_size] at h1; omega
    have hb6 := hb5.alloc hb5.size (.cells #[.string t, z.dv] 113)
    have hF6 := x4.below hb6
    have hne : v4.ownBlock ≠ some w5.heap.size := fun e => by have := x4.lt _ (x4.rowIn _ e); have := hb5.size; omega
    refine (insert_any v4 _ ul.length w5.heap.size _ (.string t) z.dv _ hF6.row (by simp) (by omega) (heap_alloc_new _ _) hne rfl (own_one hdat) hF6.ones).mono ?_
    rintro e w6 ⟨v6, rfl, hrow, hg, hat⟩
    have hgF : ∀ k, v4.ownBlock = some k → F k := x4.rowIn
    have hfr6 : Fr F w4 w6 := (Fr.of_below hb6).trans (Fr.of_grown hg hgF) (fun _ _ h => h)
    have hsz6 := hfr6.size
    have hc6 := hfr6.cell hc4 hbF
    have hf6 := (hfr6.frozen hc4 hbF).trans hf4
    have hd6 : (w5.alloc (.cells #[.string t, z.dv] 113)).ownsRow 0 5 1 z.dv z.bs.length (cells8 z.bs) := own_kept x7 (Fr.of_below (F := fun _ => False) hb6) (fun _ _ => id)
    have hI := hF6.inserted t z.dv z.bs hrow hg (by rcases hat with h | h; exact Or.inl h; exact Or.inr ⟨_, h, Nat.le_refl _⟩) hd6 (fun k hk => hF.dataIn z hzm k hk) (fun x hx => x6 x hx)
    refine ⟨v6, rfl, own_slice hrow, hc6, hf6, fun p u hp hF' => hfr6.cell hp hF', v6, ul ++ ⟨t, z.dv, z.bs⟩ :: ur, ?_, ?_, ?_⟩
    · have hI2 := hI.kept (Fr.one w6 b o v6) (fun k hk e => by
        subst e
        rcases hk with hk | hk
        · exact hbF hk
        · have := hb6.size; omega)
      refine hI2.mono (fun k hk => ?_) (ext_lt hF.lt (by rw [setCell_size]; omega))
      rcases hk with hk | hk
      · exact Or.inl hk
      · exact Or.inr ⟨by have := hb6.size; omega, by rw [setCell_size]; exact hk.2⟩
    · have := x1.miss.insE (z.bs)
      rw [x3] at this
      rw [this]
      simp [Ent.fl]
    · have h4 : Fr F (w.setCell ⟨b, o, none⟩ v4) w4 := ((Fr.of_below hb).set_both _ _).trans (x5.mono (G := F) (fun k _ hk => by cases hk; exact hk4)) (fun _ _ h => h)
      have h6 : Fr F (w.setCell ⟨b, o, none⟩ v4) w6 := h4.trans hfr6 (fun _ _ h => h)
      exact h6.then (G := F) (Fr.refl _ _) (fun _ _ h => h)
  clear hF hdat hh hs hzm hmid hd hm
  go_enter Tryz.func62, Tryz.ntmps62
  go_wp2_with fail
  (go_at_call 97; refine Calls.mono HC.out ?_; rintro e w1 ⟨rfl, hb1⟩; have hcw := below_cell hb1 hc; have c1 := below_cell hb1 hk6)
  have hb2 := hb1.alloc hb1.size (.cells #[.string t, .slice aod Ld capd] 113)
  have hmg : ¬ some g = some w1.heap.size := fun e => by simp at e; have := HF.out.lt g hk4; have := hb1.size; omega
  have hmb : w1.heap.size ≠ b := fun e => by have := hb1.size; omega
  go_wp2_with fail
  (go_at_call 61; refine (HR.out _ hb2).mono ?_; rintro e w3 ⟨rfl, v3, zs3, HX3⟩)
  go_wp2_with fail
  (go_at_call 61; refine (HR2.out _ hb2 w3 v3 zs3 HX3).mono ?_; rintro e w4 ⟨rfl, v4, ul, ur, hc4, hf4, HX4⟩; have HC4 : Hid (_) := find_miss _ _ F t ul ur w4 HX4.out.2.2.2.1 HX4.out.1 (Nat.le_trans HX4.out.2.1 HM.out); have hm4 : w4.heap[w1.heap.size]? = some (.cells #[.string t, .slice aod Ld capd] 113 (0, 0)) := by
    rw [HX4.out.2.2.2.2.1.block w1.heap.size (by rw [setCell_size]; simp) hmg, Below.heap_setCell _ _ _ _ hmb]
    exact heap_alloc_new _ _)
  have m0 := cell_of_row w4 _ 0 _ _ _ hm4
  have m1 := cell_of_row w4 _ 1 _ _ _ hm4
  obtain ⟨ao4, N4, cap4, rfl⟩ := own_slice HX4.out.2.2.2.1.row
  have HI4 : Hid (_) := HI.out _ hb2 w4 _ ul ur hc4 hf4 HX4
  rw [Hd.out] at HI4
  simp at m0 m1
  clear hm4
  go_wp2_with fail
  (go_at_call 97; refine Calls.mono HC4.out ?_; rintro e w5 ⟨rfl, hb5⟩; have hc5 := below_cell hb5 hc4; have hf5 := (below_frozen hb5 hc4).trans hf4; have m05 := below_cell hb5 m0; have m15 := below_cell hb5 m1; have HI5 : Hid (_) := HI4.out w5.drew hb5.drew)
  have hmF : ¬ F w1.heap.size := fun h => by have := HF.out.lt _ h; have := hb1.size; omega
  have M0 : Hid (_) := m0
  have M1 : Hid (_) := m1
  clear hc4 hf4 m0 m1 hcw c1
  go_wp2_with fail
  clear HI4 HI HR HR2 HX3 HX4 HC4 HC M0 M1 hmF HM HS HF HD Hd hb2 hmg hb5 hk5 hk6 hk1 hk2 hk3 hk4 hnt hnt' hbF hgd hzn hc hfz hb1
  have hca1 : ∀ ob, (w5.alloc ob).cell? ⟨b, o, none⟩ = some (.slice ao4 N4 cap4) := fun ob => below_cell ((Below.refl _ _).alloc (Nat.le_refl _) ob) hc5
  have hca2 : ∀ ob, (w5.drew.alloc ob).cell? ⟨b, o, none⟩ = some (.slice ao4 N4 cap4) := hca1
  go_region_with (go_at_call 98; refine Calls.mono HI5.out ?_; rintro e w6 ⟨v6, rfl, ⟨ao6, N6, cap6, rfl⟩, hc6, hf6, MM, HF6⟩)
  all_goals go_wp2
  all_goals go_end0
  all_goals exact ⟨rfl, HF6.out⟩

/-- A folder's move. -/
theorem move_any (b o : Nat) (v : Value) (zs : List Ent) (F : Nat → Prop) (n t : ByteArray) (w : World) (hc : w.cell? ⟨b, o, none⟩ = some v) (hfz : w.frozen? ⟨b, o, none⟩ = false) (hF : Fol w v zs F) (hbF : ¬ F b) (hs : Srt (zs.map Ent.fl)) (hm : zs.length ≤ 1000000000) :
    Calls Tryz.prog 62 #[.pointer (some ⟨b, o, none⟩), .string n, .string t] w fun e w' => e = .returned (.tuple #[]) ∧ Chg w w' b o F (ap (zs.map Ent.fl) (.mov n t)) := by
  have hsame : ∀ w' : World, Below w.heap.size w w' → Chg w w' b o F (zs.map Ent.fl) := fun w' h1 => ⟨v, zs, (hF.below h1).mono (fun _ h => Or.inl h) (ext_lt hF.lt h1.size), rfl, Fr.of_self hc (Fr.of_below h1)⟩
  rcases splitE n zs hs with ⟨zl, z, zr, hh⟩ | ⟨zl, zr, hh⟩
  · by_cases hnt : n = t
    · subst hnt
      refine (move_same b o v zs F n zl z zr w hc hF hh hm).mono ?_
      rintro e w' ⟨rfl, h1⟩
      refine ⟨rfl, ?_⟩
      simp only [ap]
      rw [hh.hit.lookE]
      simpa using hsame w' h1
    · refine (move_go b o v zs F n t zl z zr w hc hfz hF hbF hs hh hnt hm).mono ?_
      rintro e w' ⟨rfl, h1⟩
      refine ⟨rfl, ?_⟩
      simp only [ap]
      rw [hh.hit.lookE]
      simpa [hnt, Ent.fl] using h1
  · refine (move_miss b o v zs F n t zl zr w hc hF hh hm).mono ?_
    rintro e w' ⟨rfl, h1⟩
    refine ⟨rfl, ?_⟩
    simp only [ap]
    rw [hh.miss.lookE]
    exact hsame w' h1
end Go.Proofs.YtjndgekpdmlbiaaGreatDoor.Dk
namespace Go.Proofs.YtjndgekpdmlbiaaGreatDoor.Dk
open Go.RowKit

/-- A change in memory. -/
def ChV (w : World) (cv : Value) (c : Ch) (G : Nat → Prop) : Prop :=
  ∃ (kd : Int) (nm : ByteArray) (ao : Option Addr) (L cap : Nat) (sz : Int) (t : ByteArray), cv = .agg #[.int .i64 kd, .string nm, .slice ao L cap, .int .i64 sz, .string t] ∧
    match c with
    | .app n b => kd = 1 ∧ nm = n ∧ SlA w (.slice ao L cap) b G
    | .cut n k => kd = 2 ∧ nm = n ∧ sz = (k : Int)
    | .rem n => kd = 3 ∧ nm = n
    | .mov n m => kd = 4 ∧ nm = n ∧ t = m
theorem ChV.kept {w w' : World} {cv : Value} {c : Ch} {G : Nat → Prop} (h : ChV w cv c G) (hf : Fr G w w') : ChV w' cv c G := by
  obtain ⟨kd, nm, ao, L, cap, sz, t, e, hm⟩ := h
  refine ⟨kd, nm, ao, L, cap, sz, t, e, ?_⟩
  cases c with
  | app n b => exact ⟨hm.1, hm.2.1, hm.2.2.kept hf⟩
  | cut n k => exact hm
  | rem n => exact hm
  | mov n m => exact hm
theorem ChV.mono {w : World} {cv : Value} {c : Ch} {G H : Nat → Prop} (h : ChV w cv c G) (hg : ∀ k, H k → G k) : ChV w cv c H := by
  obtain ⟨kd, nm, ao, L, cap, sz, t, e, hm⟩ := h
  refine ⟨kd, nm, ao, L, cap, sz, t, e, ?_⟩
  cases c with
  | app n b => exact ⟨hm.1, hm.2.1, hm.2.2.mono hg⟩
  | cut n k => exact hm
  | rem n => exact hm
  | mov n m => exact hm

/-- What a call made before its first change. -/
theorem Chg.from {w w1 w' : World} {b o : Nat} {F : Nat → Prop} {fs : List Fl} (h : Chg w1 w' b o F fs) (hb : Below w.heap.size w w1) (hF : ∀ k, F k → k < w.heap.size) : Chg w w' b o F fs := by
  obtain ⟨v', zs', h1, h2, h3⟩ := h
  have hs := h3.size
  rw [setCell_size] at hs
  exact ⟨v', zs', h1.mono (ext_from hb.size) (ext_lt hF (Nat.le_trans hb.size hs)), h2, ((Fr.of_below hb).set_both _ _).trans h3 (fun _ _ h => h)⟩

set_option maxHeartbeats 1000000 in
set_option maxRecDepth 20000 in
theorem do_any (b o : Nat) (v : Value) (zs : List Ent) (F : Nat → Prop) (cv : Value) (c : Ch) (w : World) (hc : w.cell? ⟨b, o, none⟩ = some v) (hfz : w.frozen? ⟨b, o, none⟩ = false) (hF : Fol w v zs F) (hbF : ¬ F b) (hs : Srt (zs.map Ent.fl))
    (hV : ChV w cv c (fun k => F k ∨ k = b)) (hok : Okc (zs.map Ent.fl) c) (hm : mass (zs.map Ent.fl) + c.mass ≤ 1000000000) :
    Calls Tryz.prog 38 #[.pointer (some ⟨b, o, none⟩), cv] w fun e w' => e = .returned (.tuple #[]) ∧ Chg w w' b o F (ap (zs.map Ent.fl) c) := by
  have hum := used_mass (zs.map Ent.fl)
  rw [List.length_map] at hum
  obtain ⟨kd, nm, ao, L, cap, sz, t, rfl, hmc⟩ := hV
  have hb1 : Below w.heap.size w (w.alloc (.cells #[.int .i64 kd, .string nm, .slice ao L cap, .int .i64 sz, .string t] 93)) := (Below.refl _ _).alloc (Nat.le_refl _) _
  have hc1 := below_cell hb1 hc
  have hf1 := (below_frozen hb1 hc).trans hfz
  have hF1 := hF.below hb1
  have hlt := hF.lt
  cases c with
  | app n bs =>
    obtain ⟨rfl, rfl, hS⟩ := hmc
    have HA : Hid (_) := add_any b o v zs F nm _ bs _ hc1 hf1 hF1 hbF hs (hS.kept (Fr.of_below hb1)) (by simp only [Ch.mass] at hm; omega)
    have HB : Hid (_) := hb1
    have HL : Hid (_) := hlt
    clear hF hF1 hS hc1 hf1 hb1 hlt hum hs hok hm
    go_enter Tryz.func38, Tryz.ntmps38
    go_wp2_with (go_at_call 59; refine Calls.mono HA.out ?_; rintro e w' ⟨rfl, HX⟩)
    go_end0
    exact ⟨rfl, HX.from HB.out HL.out⟩
  | cut n k =>
    obtain ⟨rfl, rfl, rfl⟩ := hmc
    have HA : Hid (_) := cut_any b o v zs F nm k _ hc1 hF1 hs hok (by simp only [Ch.mass] at hm; omega)
    have HB : Hid (_) := hb1
    have HL : Hid (_) := hlt
    clear hF hF1 hc1 hf1 hb1 hlt hum hs hok hm
    go_enter Tryz.func38, Tryz.ntmps38
    go_wp2_with (go_at_call 60; refine Calls.mono HA.out ?_; rintro e w' ⟨rfl, HX⟩)
    go_end0
    exact ⟨rfl, HX.from HB.out HL.out⟩
  | rem n =>
    obtain ⟨rfl, rfl⟩ := hmc
    have HA : Hid (_) := remove_any b o v zs F nm _ hc1 hf1 hF1 hbF hs (by simp only [Ch.mass] at hm; omega)
    have HB : Hid (_) := hb1
    have HL : Hid (_) := hlt
    clear hF hF1 hc1 hf1 hb1 hlt hum hs hok hm
    go_enter Tryz.func38, Tryz.ntmps38
    go_wp2_with (go_at_call 61; refine Calls.mono HA.out ?_; rintro e w' ⟨rfl, HX⟩)
    go_end0
    exact ⟨rfl, HX.from HB.out HL.out⟩
  | mov n m =>
    obtain ⟨rfl, rfl, rfl⟩ := hmc
    have HA : Hid (_) := move_any b o v zs F nm t _ hc1 hf1 hF1 hbF hs (by simp only [Ch.mass] at hm; omega)
    have HB : Hid (_) := hb1
    have HL : Hid (_) := hlt
    clear hF hF1 hc1 hf1 hb1 hlt hum hs hok hm
    go_enter Tryz.func38, Tryz.ntmps38
    go_wp2_with (go_at_call 62; refine Calls.mono HA.out ?_; rintro e w' ⟨rfl, HX⟩)
    go_end0
    exact ⟨rfl, HX.from HB.out HL.out⟩

/-- What a crash leaves of a change. -/
def torn (fs : List Fl) (c : Ch) (k : Int) : List Fl :=
  match c with
  | .app n b => if k < 0 then fs else ap fs (.app n (b.take k.toNat))
  | _ => fs
def Ch.isApp : Ch → Bool
  | .app _ _ => true
  | _ => false

set_option maxHeartbeats 1000000 in
set_option maxRecDepth 20000 in
theorem tear_not (b o : Nat) (v : Value) (zs : List Ent) (F : Nat → Prop) (cv : Value) (c : Ch) (k : Int) (w : World) (hc : w.cell? ⟨b, o, none⟩ = some v) (hF : Fol w v zs F) (hV : ChV w cv c (fun k => F k ∨ k = b)) (hno : c.isApp = false ∨ k < 0) :
    Calls Tryz.prog 39 #[.pointer (some ⟨b, o, none⟩), cv, .int .i64 k] w fun e w' => e = .returned (.tuple #[]) ∧ Chg w w' b o F (torn (zs.map Ent.fl) c k) := by
  obtain ⟨kd, nm, ao, L, cap, sz, t, rfl, hmc⟩ := hV
  have hb1 : Below w.heap.size w (w.alloc (.cells #[.int .i64 kd, .string nm, .slice ao L cap, .int .i64 sz, .string t] 93)) := (Below.refl _ _).alloc (Nat.le_refl _) _
  have hX : Hid (Chg w (w.alloc (.cells #[.int .i64 kd, .string nm, .slice ao L cap, .int .i64 sz, .string t] 93)) b o F (torn (zs.map Ent.fl) c k)) := by
    have e : torn (zs.map Ent.fl) c k = zs.map Ent.fl := by
      cases c with
      | app n b =>
        rcases hno with h | h
        · simp [Ch.isApp] at h
        · simp [torn, h]
      | _ => rfl
    show Chg _ _ _ _ _ _
    rw [e]
    exact ⟨v, zs, (hF.below hb1).mono (fun _ h => Or.inl h) (ext_lt hF.lt hb1.size), rfl, Fr.of_self hc (Fr.of_below hb1)⟩
  have hk : kd = 1 → k < 0 := fun h1 => by
    rcases hno with h | h
    · cases c with
      | app n b => simp [Ch.isApp] at h
      | cut n k => have := hmc.1; omega
      | rem n => have := hmc.1; omega
      | mov n m => have := hmc.1; omega
    · exact h
  clear hmc hF hb1
  by_cases h1 : kd = 1
  · have hk' := hk h1
    subst h1
    clear hk hno
    go_enter Tryz.func39, Tryz.ntmps39
    go_wp2
    exact bodyPost_ret (results_none rfl _ _ _) rfl ⟨rfl, hX.out⟩
  · have h1' : (kd == 1) = false := by simpa using h1
    clear hk hno
    go_enter Tryz.func39, Tryz.ntmps39
    go_wp2
    exact bodyPost_ret (results_none rfl _ _ _) rfl ⟨rfl, hX.out⟩
end Go.Proofs.YtjndgekpdmlbiaaGreatDoor.Dk
namespace Go.Proofs.YtjndgekpdmlbiaaGreatDoor.Dk
open Go.RowKit

/-- The cells of a change. -/
structure Cv where
  kd : Int
  nm : ByteArray
  dv : Value
  sz : Int
  t : ByteArray
def Cv.val (c : Cv) : Value := .agg #[.int .i64 c.kd, .string c.nm, c.dv, .int .i64 c.sz, .string c.t]
def Cv.cells (c : Cv) : List Value := [.int .i64 c.kd, .string c.nm, c.dv, .int .i64 c.sz, .string c.t]
def cellsW (ws : List (Cv × Ch)) : List Value := ws.flatMap fun y => y.1.cells
theorem cellsW_len : ∀ ws : List (Cv × Ch), (cellsW ws).length = ws.length * 5
  | [] => rfl
  | z :: r => by
    have := cellsW_len r
    simp [cellsW, Cv.cells] at this ⊢
    omega
theorem cellsW_append (a b : List (Cv × Ch)) : cellsW (a ++ b) = cellsW a ++ cellsW b := by simp [cellsW]
theorem cellsW_cons (z : Cv × Ch) (b : List (Cv × Ch)) : cellsW (z :: b) = z.1.cells ++ cellsW b := by simp [cellsW]
theorem cellsW_get (ws : List (Cv × Ch)) (i : Nat) (h : i < ws.length) (j : Nat) (hj : j < 5) : (cellsW ws)[i * 5 + j]? = ws[i].1.cells[j]? := by
  have e : ws = ws.take i ++ ws[i] :: ws.drop (i + 1) := by simp
  have hl : (ws.take i).length = i := by simp; omega
  have h1 : cellsW ws = cellsW (ws.take i) ++ (ws[i].1.cells ++ cellsW (ws.drop (i + 1))) := by
    rw [← cellsW_cons, ← cellsW_append, ← e]
  rw [h1, List.getElem?_append_right (by rw [cellsW_len, hl]; omega), cellsW_len, hl, Nat.add_sub_cancel_left, List.getElem?_append_left (by simp [Cv.cells]; omega)]

/-- The changes that wait, in memory. -/
structure Wt (w : World) (v : Value) (ws : List (Cv × Ch)) (F : Nat → Prop) : Prop where
  row : w.ownsRow 0 93 5 v ws.length (cellsW ws)
  each : ∃ Fd : Nat → Prop, (∀ k, Fd k → F k) ∧ (∀ k, v.ownBlock = some k → ¬ Fd k) ∧ ∀ y ∈ ws, ChV w y.1.val y.2 (fun k => ¬ Fd k)
  rowIn : ∀ k, v.ownBlock = some k → F k
  lt : ∀ k, F k → k < w.heap.size
theorem Wt.kept {w w' : World} {v : Value} {ws : List (Cv × Ch)} {F G : Nat → Prop} (h : Wt w v ws F) (hf : Fr G w w') (hd : ∀ k, F k → ¬ G k) : Wt w' v ws F := by
  obtain ⟨Fd, h1, h2, h3⟩ := h.each
  exact ⟨own_kept h.row hf fun k hk => hd k (h.rowIn k hk), ⟨Fd, h1, h2, fun y hy => (h3 y hy).kept (hf.mono fun k _ hG hF => hd k (h1 k hF) hG)⟩, h.rowIn, fun k hk => Nat.lt_of_lt_of_le (h.lt k hk) hf.size⟩
theorem Wt.nil (w : World) (F : Nat → Prop) (h : ∀ k, F k → k < w.heap.size) : Wt w (.slice none 0 0) [] F := ⟨World.ownsRow_nil _ _ _ _, ⟨fun _ => False, fun _ h => h.elim, fun _ _ h => h, by simp⟩, by simp [Value.ownBlock], h⟩
theorem Wt.away {w : World} {v : Value} {ws : List (Cv × Ch)} {F G : Nat → Prop} (h : Wt w v ws F) (hG : ∀ k, F k → ¬ G k) (y : Cv × Ch) (hy : y ∈ ws) : ChV w y.1.val y.2 G := by
  obtain ⟨Fd, h1, h2, h3⟩ := h.each
  exact (h3 y hy).mono (fun k hk hF => hG k (h1 k hF) hk)
theorem Cv.slice {w : World} {c : Cv} {x : Ch} {G : Nat → Prop} (h : ChV w c.val x G) : ∃ ao L cap, c.dv = .slice ao L cap := by
  obtain ⟨kd, nm, ao, L, cap, sz, t, e, _⟩ := h
  simp [Cv.val] at e
  exact ⟨ao, L, cap, e.2.2.1⟩
theorem Wt.ones {w : World} {v : Value} {ws : List (Cv × Ch)} {F : Nat → Prop} (h : Wt w v ws F) : ∀ u ∈ cellsW ws, u.oneCell' = true := by
  intro u hu
  obtain ⟨y, hy, hu⟩ := List.mem_flatMap.1 hu
  obtain ⟨Fd, h1, h2, h3⟩ := h.each
  obtain ⟨ao, L, cap, e⟩ := Cv.slice (h3 y hy)
  simp [Cv.cells] at hu
  rcases hu with rfl | rfl | rfl | rfl | rfl
  · rfl
  · rfl
  · rw [e]; rfl
  · rfl
  · rfl
theorem Wt.cell {w : World} {g cap n : Nat} {ws : List (Cv × Ch)} {F : Nat → Prop} (h : Wt w (.slice (some ⟨g, 0, none⟩) n cap) ws F) (i : Nat) (hi : i < ws.length) :
    w.cell? ⟨g, i * 5, none⟩ = some (.int .i64 ws[i].1.kd) ∧ w.cell? ⟨g, i * 5 + 1, none⟩ = some (.string ws[i].1.nm) ∧ w.cell? ⟨g, i * 5 + 2, none⟩ = some ws[i].1.dv ∧ w.cell? ⟨g, i * 5 + 3, none⟩ = some (.int .i64 ws[i].1.sz) ∧ w.cell? ⟨g, i * 5 + 4, none⟩ = some (.string ws[i].1.t) := by
  obtain ⟨hn, _⟩ | ⟨g', cap', e, _⟩ := own_shape h.row
  · simp at hn
  · have hr := h.row
    rw [e] at hr
    simp only [Value.slice.injEq, Option.some.injEq, Addr.mk.injEq, and_true] at e
    obtain ⟨rfl, rfl, rfl⟩ := e
    have hc := fun j (hj : j < 5) => cellsW_get ws i hi j hj
    exact ⟨by rw [hr.cellAt _ (by omega)]; exact hc 0 (by omega), by rw [hr.cellAt _ (by omega)]; exact hc 1 (by omega), by rw [hr.cellAt _ (by omega)]; exact hc 2 (by omega), by rw [hr.cellAt _ (by omega)]; exact hc 3 (by omega), by rw [hr.cellAt _ (by omega)]; exact hc 4 (by omega)⟩

/-- A disk in memory, part by part. -/
structure DkC (w : World) (p : Nat) (room : Int) (vl vn vw : Value) (zl zn : List Ent) (ws : List (Cv × Ch)) (Fa Fn Fw : Nat → Prop) : Prop where
  heap : w.heap[p]? = some (.cells #[.int .i64 room, vl, vn, vw] 73 (0, 0))
  fl : Fol w vl zl Fa
  fn : Fol w vn zn Fn
  wt : Wt w vw ws Fw
  d1 : ∀ k, Fa k → ¬ Fn k
  d2 : ∀ k, Fa k → ¬ Fw k
  d3 : ∀ k, Fn k → ¬ Fw k
  p1 : ¬ Fa p
  p2 : ¬ Fn p
  p3 : ¬ Fw p
theorem DkC.plt {w : World} {p : Nat} {room : Int} {vl vn vw : Value} {zl zn : List Ent} {ws : List (Cv × Ch)} {Fa Fn Fw : Nat → Prop} (h : DkC w p room vl vn vw zl zn ws Fa Fn Fw) : p < w.heap.size := (Array.getElem?_eq_some_iff.1 h.heap).1
theorem DkC.cells {w : World} {p : Nat} {room : Int} {vl vn vw : Value} {zl zn : List Ent} {ws : List (Cv × Ch)} {Fa Fn Fw : Nat → Prop} (h : DkC w p room vl vn vw zl zn ws Fa Fn Fw) :
    w.cell? ⟨p, 0, none⟩ = some (.int .i64 room) ∧ w.cell? ⟨p, 1, none⟩ = some vl ∧ w.cell? ⟨p, 2, none⟩ = some vn ∧ w.cell? ⟨p, 3, none⟩ = some vw ∧ ∀ j, w.frozen? ⟨p, j, none⟩ = false := by
  refine ⟨?_, ?_, ?_, ?_, fun j => by simp [World.frozen?, h.heap]⟩
  · rw [cell_of_row w p 0 _ _ _ h.heap]; rfl
  · rw [cell_of_row w p 1 _ _ _ h.heap]; rfl
  · rw [cell_of_row w p 2 _ _ _ h.heap]; rfl
  · rw [cell_of_row w p 3 _ _ _ h.heap]; rfl
theorem DkC.kept {w w' : World} {p : Nat} {room : Int} {vl vn vw : Value} {zl zn : List Ent} {ws : List (Cv × Ch)} {Fa Fn Fw G : Nat → Prop} (h : DkC w p room vl vn vw zl zn ws Fa Fn Fw) (hf : Fr G w w') (h1 : ∀ k, Fa k → ¬ G k) (h2 : ∀ k, Fn k → ¬ G k) (h3 : ∀ k, Fw k → ¬ G k) (h4 : ¬ G p) : DkC w' p room vl vn vw zl zn ws Fa Fn Fw :=
  ⟨(hf.block p h.plt h4).trans h.heap, h.fl.kept hf h1, h.fn.kept hf h2, h.wt.kept hf h3, h.d1, h.d2, h.d3, h.p1, h.p2, h.p3⟩

/-- What is new is in no old set. -/
theorem ext_not {F G : Nat → Prop} {w w' : World} (hG : ∀ k, G k → k < w.heap.size) (hd : ∀ k, F k → ¬ G k) : ∀ k, ext F w w' k → ¬ G k := fun k hk hg => by
  rcases hk with hk | hk
  · exact hd k hk hg
  · have := hG k hg; omega
theorem ext_not' {F G : Nat → Prop} {w w' : World} (hG : ∀ k, G k → k < w.heap.size) (hd : ∀ k, G k → ¬ F k) : ∀ k, G k → ¬ ext F w w' k := fun k hg hk => by
  rcases hk with hk | hk
  · exact hd k hg hk
  · have := hG k hg; omega

/-- The lasting files have changed. -/
theorem DkC.last {w w' : World} {p : Nat} {room : Int} {vl vn vw : Value} {zl zn : List Ent} {ws : List (Cv × Ch)} {Fa Fn Fw : Nat → Prop} (h : DkC w p room vl vn vw zl zn ws Fa Fn Fw) {vl' : Value} {zl' : List Ent} (hF : Fol w' vl' zl' (ext Fa w w')) (hf : Fr Fa (w.setCell ⟨p, 1, none⟩ vl') w') :
    DkC w' p room vl' vn vw zl' zn ws (ext Fa w w') Fn Fw := by
  have hs := hf.size
  rw [setCell_size] at hs
  have hone := Fr.one w p 1 vl'
  refine ⟨?_, hF, ?_, ?_, ext_not h.fn.lt h.d1, ext_not h.wt.lt h.d2, h.d3, fun hk => ?_, h.p2, h.p3⟩
  · rw [hf.block p (by rw [setCell_size]; exact h.plt) h.p1, heap_set h.heap]
    rfl
  · exact (h.fn.kept hone (fun k hk e => h.p2 (e ▸ hk))).kept hf (fun k hk hl => h.d1 k hl hk)
  · exact (h.wt.kept hone (fun k hk e => h.p3 (e ▸ hk))).kept hf (fun k hk hl => h.d2 k hl hk)
  · rcases hk with hk | hk
    · exact h.p1 hk
    · have := h.plt; omega
/-- The files as they are now have changed. -/
theorem DkC.now {w w' : World} {p : Nat} {room : Int} {vl vn vw : Value} {zl zn : List Ent} {ws : List (Cv × Ch)} {Fa Fn Fw : Nat → Prop} (h : DkC w p room vl vn vw zl zn ws Fa Fn Fw) {vn' : Value} {zn' : List Ent} (hF : Fol w' vn' zn' (ext Fn w w')) (hf : Fr Fn (w.setCell ⟨p, 2, none⟩ vn') w') :
    DkC w' p room vl vn' vw zl zn' ws Fa (ext Fn w w') Fw := by
  have hs := hf.size
  rw [setCell_size] at hs
  have hone := Fr.one w p 2 vn'
  refine ⟨?_, ?_, hF, ?_, ext_not' h.fl.lt h.d1, h.d2, ext_not h.wt.lt h.d3, h.p1, fun hk => ?_, h.p3⟩
  · rw [hf.block p (by rw [setCell_size]; exact h.plt) h.p2, heap_set h.heap]
    rfl
  · exact (h.fl.kept hone (fun k hk e => h.p1 (e ▸ hk))).kept hf h.d1
  · exact (h.wt.kept hone (fun k hk e => h.p3 (e ▸ hk))).kept hf (fun k hk hl => h.d3 k hl hk)
  · rcases hk with hk | hk
    · exact h.p2 hk
    · have := h.plt; omega
/-- One more change waits. -/
theorem DkC.push {w w' : World} {p : Nat} {room : Int} {vl vn vw : Value} {zl zn : List Ent} {ws : List (Cv × Ch)} {Fa Fn Fw D : Nat → Prop} (h : DkC w p room vl vn vw zl zn ws Fa Fn Fw) {vw' : Value} (y : Cv × Ch) (hrow : w'.ownsRow 0 93 5 vw' (ws.length + 1) (cellsW ws ++ y.1.cells)) (hg : w.grownBy w' vw.ownBlock)
    (hv : vw'.ownBlock = vw.ownBlock ∨ ∃ k, vw'.ownBlock = some k ∧ w.heap.size ≤ k) (hy : ChV w y.1.val y.2 (fun k => ¬ D k)) (hD : ∀ k, D k → ¬ Fa k ∧ ¬ Fn k ∧ ¬ Fw k ∧ k ≠ p ∧ k < w.heap.size) :
    DkC (w'.setCell ⟨p, 3, none⟩ vw') p room vl vn vw' zl zn (ws ++ [y]) Fa Fn (ext (fun k => Fw k ∨ D k) w w') ∧ w'.cell? ⟨p, 3, none⟩ = some vw ∧ w'.frozen? ⟨p, 3, none⟩ = false := by
  have hf : Fr (fun k => vw.ownBlock = some k) w w' := Fr.of_grown hg (fun k hk => hk)
  have hFw : ∀ k, vw.ownBlock = some k → Fw k := h.wt.rowIn
  have hone := Fr.one w' p 3 vw'
  have hlt : ∀ k, (Fw k ∨ D k) → k < w.heap.size := fun k hk => by
    rcases hk with hk | hk
    · exact h.wt.lt k hk
    · exact (hD k hk).2.2.2.2
  have hpw : ¬ vw.ownBlock = some p := fun e => h.p3 (hFw p e)
  have hheap : w'.heap[p]? = some (.cells #[.int .i64 room, vl, vn, vw] 73 (0, 0)) := (hf.block p h.plt hpw).trans h.heap
  have hnp : ¬ ext (fun k => Fw k ∨ D k) w w' p := fun hk => by
    rcases hk with (hk | hk) | hk
    · exact h.p3 hk
    · exact (hD p hk).2.2.2.1 rfl
    · have := h.plt; omega
  have hss : w.heap.size ≤ (w'.setCell ⟨p, 3, none⟩ vw').heap.size := by rw [setCell_size]; exact hg.size
  refine ⟨⟨?_, ?_, ?_, ?_, ?_, ?_, ?_, h.p1, h.p2, hnp⟩, ?_, ?_⟩
  · rw [heap_set hheap]
    rfl
  · exact (h.fl.kept hf (fun k hk e => h.d2 k hk (hFw k e))).kept hone (fun k hk e => h.p1 (e ▸ hk))
  · exact (h.fn.kept hf (fun k hk e => h.d3 k hk (hFw k e))).kept hone (fun k hk e => h.p2 (e ▸ hk))
  · refine ⟨?_, ?_, ?_, ?_⟩
    · have e : cellsW (ws ++ [y]) = cellsW ws ++ y.1.cells := by rw [cellsW_append, cellsW_cons]; simp [cellsW]
      rw [e, List.length_append]
      refine own_kept hrow hone (fun k hk e => ?_)
      subst e
      rcases hv with hv | ⟨k', hk', hge⟩
      · exact hpw (by rw [← hv]; exact hk)
      · rw [hk] at hk'
        cases hk'
        have := h.plt; omega
    · obtain ⟨Fd, g1, g2, g3⟩ := h.wt.each
      have hfr : Fr (fun k => ¬ (Fd k ∨ D k)) w (w'.setCell ⟨p, 3, none⟩ vw') := by
        refine (hf.mono (G := fun k => ¬ (Fd k ∨ D k)) (fun k _ hk hF => ?_)).trans hone (fun k hk e hF => ?_)
        · rcases hF with hF | hF
          · exact g2 k hk hF
          · exact (hD k hF).2.2.1 (hFw k hk)
        · subst e
          rcases hF with hF | hF
          · exact h.p3 (g1 k hF)
          · exact (hD k hF).2.2.2.1 rfl
      refine ⟨fun k => Fd k ∨ D k, fun k hk => ?_, fun k hk hF => ?_, fun x hx => ?_⟩
      · rcases hk with hk | hk
        · exact Or.inl (Or.inl (g1 k hk))
        · exact Or.inl (Or.inr hk)
      · rcases hv with hv | ⟨k', hk', hge⟩
        · rw [hv] at hk
          rcases hF with hF | hF
          · exact g2 k hk hF
          · exact (hD k hF).2.2.1 (hFw k hk)
        · rw [hk] at hk'
          cases hk'
          rcases hF with hF | hF
          · have := hlt k (Or.inl (g1 k hF)); omega
          · have := (hD k hF).2.2.2.2; omega
      · rcases List.mem_append.1 hx with hx | hx
        · exact ((g3 x hx).mono (fun k hk hF => hk (Or.inl hF))).kept hfr
        · simp at hx
          subst hx
          exact (hy.mono (fun k hk hF => hk (Or.inr hF))).kept hfr
    · intro k hk
      rcases hv with hv | ⟨k', hk', hge⟩
      · exact Or.inl (Or.inl (hFw k (by rw [← hv]; exact hk)))
      · rw [hk] at hk'
        cases hk'
        exact Or.inr ⟨hge, (hrow.lt k hk).2⟩
    · exact fun k hk => by rw [setCell_size]; exact ext_lt hlt hg.size k hk
  · exact h.d1
  · exact ext_not' (F := fun k => Fw k ∨ D k) h.fl.lt (fun k hk hE => by rcases hE with hE | hE; exact h.d2 k hk hE; exact (hD k hE).1 hk)
  · exact ext_not' (F := fun k => Fw k ∨ D k) h.fn.lt (fun k hk hE => by rcases hE with hE | hE; exact h.d3 k hk hE; exact (hD k hE).2.1 hk)
  · rw [cell_of_row w' p 3 _ _ _ hheap]; rfl
  · simp [World.frozen?, hheap]

/-- A disk in memory: its room, what lasts, what waits. -/
structure St where
  room : Int
  last : List Fl
  wait : List Ch
def St.now (s : St) : List Fl := Dk.run s.last s.wait
def St.push (s : St) (c : Ch) : St := ⟨s.room, s.last, s.wait ++ [c]⟩
def St.mass (s : St) : Nat := Dk.mass s.last + wmass s.wait + s.wait.length
structure St.good (s : St) : Prop where
  srt : Srt s.last
  ok : Okw s.last s.wait
  r0 : 0 ≤ s.room
  r1 : s.room ≤ 4194304
theorem St.now_mass {s : St} (h : s.good) : Dk.mass s.now + s.wait.length ≤ s.mass := by
  have := run_mass s.wait s.last h.srt
  unfold St.mass St.now
  omega
theorem St.now_srt {s : St} (h : s.good) : Srt s.now := run_srt _ _ h.srt
theorem St.push_now (s : St) (c : Ch) : (s.push c).now = ap s.now c := run_snoc _ _ _
theorem St.push_good {s : St} (h : s.good) {c : Ch} (hc : Okc s.now c) : (s.push c).good := ⟨h.srt, okw_snoc c _ _ h.ok hc, h.r0, h.r1⟩
theorem St.push_mass (s : St) (c : Ch) : (s.push c).mass = s.mass + c.mass + 1 := by
  simp [St.push, St.mass, wmass]
  omega

def Dk (w : World) (p : Nat) (s : St) (F : Nat → Prop) : Prop :=
  s.good ∧ (∀ k, F k → k < w.heap.size) ∧ ∃ vl vn vw zl zn ws Fa Fn Fw, DkC w p s.room vl vn vw zl zn ws Fa Fn Fw ∧ zl.map Ent.fl = s.last ∧ zn.map Ent.fl = s.now ∧ ws.map Prod.snd = s.wait ∧ ∀ k, (Fa k ∨ Fn k ∨ Fw k ∨ k = p) → F k
theorem Dk.kept {w w' : World} {p : Nat} {s : St} {F G : Nat → Prop} (h : Dk w p s F) (hf : Fr G w w') (hd : ∀ k, F k → ¬ G k) : Dk w' p s F := by
  obtain ⟨h1, h2, vl, vn, vw, zl, zn, ws, Fa, Fn, Fw, hC, g1, g2, g3, g4⟩ := h
  exact ⟨h1, fun k hk => Nat.lt_of_lt_of_le (h2 k hk) hf.size, vl, vn, vw, zl, zn, ws, Fa, Fn, Fw, hC.kept hf (fun k hk => hd k (g4 k (Or.inl hk))) (fun k hk => hd k (g4 k (Or.inr (Or.inl hk)))) (fun k hk => hd k (g4 k (Or.inr (Or.inr (Or.inl hk))))) (hd p (g4 p (Or.inr (Or.inr (Or.inr rfl))))), g1, g2, g3, g4⟩
theorem Dk.below {w w' : World} {p : Nat} {s : St} {F : Nat → Prop} (h : Dk w p s F) (hb : Below w.heap.size w w') : Dk w' p s F := h.kept (G := fun _ => False) (Fr.of_below hb) (fun _ _ => id)
theorem Dk.mono {w : World} {p : Nat} {s : St} {F G : Nat → Prop} (h : Dk w p s F) (hg : ∀ k, F k → G k) (hl : ∀ k, G k → k < w.heap.size) : Dk w p s G := by
  obtain ⟨h1, h2, vl, vn, vw, zl, zn, ws, Fa, Fn, Fw, hC, g1, g2, g3, g4⟩ := h
  exact ⟨h1, hl, vl, vn, vw, zl, zn, ws, Fa, Fn, Fw, hC, g1, g2, g3, fun k hk => hg k (g4 k hk)⟩
end Go.Proofs.YtjndgekpdmlbiaaGreatDoor.Dk
namespace Go.Proofs.YtjndgekpdmlbiaaGreatDoor.Dk
open Go.RowKit

def okB (c : Int) : Bool := (decide (97 ≤ c) && decide (c ≤ 122)) || (decide (65 ≤ c) && decide (c ≤ 90)) || (decide (48 ≤ c) && decide (c ≤ 57)) || decide (c = 46)
def okN (a : ByteArray) : Bool := decide (1 ≤ a.size) && decide (a.size ≤ 16) && a.data.toList.all fun c => okB c.toNat
def roomN (n : Int) : Int := min (max n 0) 4194304

set_option maxHeartbeats 400000 in
theorem okB_any (c : Int) (w : World) (h0 : 0 ≤ c) (h1 : c ≤ 255) :
    Calls Tryz.prog 144 #[.int .u8 c] w fun e w' => e = .returned (.bool (okB c)) ∧ w' = w := by
  go_enter Tryz.func144, Tryz.ntmps144
  go_wp2
  all_goals (go_ret; refine ⟨congrArg (fun b => Ending.returned (Value.bool b)) ?_, rfl⟩; unfold okB; rw [Bool.eq_iff_iff]; simp; try omega)

set_option maxHeartbeats 400000 in
theorem room_any (n : Int) (w : World) :
    Calls Tryz.prog 24 #[.int .i64 n] w fun e w' => e = .returned (.int .i64 (roomN n)) ∧ w' = w := by
  go_enter Tryz.func24, Tryz.ntmps24
  go_wp2
  all_goals (go_ret; refine ⟨congrArg (fun b => Ending.returned (Value.int .i64 b)) ?_, rfl⟩; unfold roomN; try omega)

set_option maxHeartbeats 1000000 in
theorem name_any (a : ByteArray) (w : World) :
    Calls Tryz.prog 140 #[.string a] w fun e w' => e = .returned (.bool (okN a)) ∧ w' = w := by
  by_cases h1 : a.size < 1
  · have h1' : (a.size : Int) < 1 := by omega
    have e : okN a = false := by simp [okN]; omega
    rw [e]
    clear e
    go_enter Tryz.func140, Tryz.ntmps140
    go_wp2
    go_ret
    exact ⟨rfl, rfl⟩
  · by_cases h2 : 16 < a.size
    · have h1' : ¬ (a.size : Int) < 1 := by omega
      have h2' : 16 < (a.size : Int) := by omega
      have e : okN a = false := by simp [okN]; omega
      rw [e]
      clear e
      go_enter Tryz.func140, Tryz.ntmps140
      go_wp2
      go_ret
      exact ⟨rfl, rfl⟩
    · have h1' : ¬ (a.size : Int) < 1 := by omega
      have h2' : ¬ 16 < (a.size : Int) := by omega
      go_enter Tryz.func140, Tryz.ntmps140
      go_wp2
      go_loopw [14] (fun vi wr => ∃ k : Nat, k ≤ a.size ∧ vi = .int .i64 k ∧ Hid ((a.data.toList.take k).all (fun c => okB c.toNat) = true) ∧ wr = w) (fun vi _ => a.size - (intOf vi).toNat)
      case atStart => exact ⟨0, Nat.zero_le _, rfl, rfl, rfl⟩
      case round =>
        obtain ⟨k, hk, rfl, HA, hw⟩ := hrel
        have hw' := hw.symm
        subst hw'
        by_cases hlt : k < a.size
        · have hlt' : (k : Int) < (a.size : Int) := by omega
          have hk2 : k < a.data.toList.length := hlt
          have hak : a.data.toList[k]? = some a[k] := by rw [List.getElem?_eq_getElem hk2]; rfl
          have h0 : (0 : Int) ≤ (a[k].toNat : Int) := by omega
          have h255 : (a[k].toNat : Int) ≤ 255 := by have := a[k].toNat_lt; omega
          have HC : Hid (_) := okB_any (a[k].toNat : Int) w h0 h255
          have HT : Hid (a.data.toList.take (k + 1) = a.data.toList.take k ++ [a[k]]) := take_succ_snoc _ k _ hak
          cases hc : okB (a[k].toNat : Int) with
          | true =>
            rw [hc] at HC
            have HA' : Hid ((a.data.toList.take (k + 1)).all (fun c => okB c.toNat) = true) := by
              show _ = _
              rw [HT.out, List.all_append, HA.out]
              simp [hc]
            clear hc h0 h255
            go_wp2_with (go_at_call 144; refine Calls.mono HC.out ?_; rintro e w' ⟨rfl, hw⟩; have hw' := hw.symm; subst hw')
            go_roundw
            case rel => exact ⟨k + 1, by omega, by go_num, HA', trivial⟩
            case measure => simp [intOf]; omega
          | false =>
            rw [hc] at HC
            have HF : Hid (okN a = false) := by
              show _ = _
              have : a.data.toList.all (fun c => okB c.toNat) = false := by
                rw [List.all_eq_false]
                exact ⟨a[k], List.mem_of_getElem? hak, by simp [hc]⟩
              unfold okN
              rw [this, Bool.and_false]
            clear hc h0 h255
            go_wp2_with (go_at_call 144; refine Calls.mono HC.out ?_; rintro e w' ⟨rfl, hw⟩; have hw' := hw.symm; subst hw')
            go_ret
            exact ⟨by rw [HF.out]; rfl, rfl⟩
        · have e : k = a.size := by omega
          subst e
          have hlt' : ¬ (a.size : Int) < (a.size : Int) := by omega
          have HF : Hid (okN a = true) := by
            show _ = _
            have h := HA.out
            rw [List.take_of_length_le (by show a.data.toList.length ≤ _; exact Nat.le_refl _)] at h
            unfold okN
            rw [h]
            simp
            omega
          go_wp2
          go_ret
          exact ⟨by rw [HF.out]; rfl, rfl⟩
end Go.Proofs.YtjndgekpdmlbiaaGreatDoor.Dk
namespace Go.Proofs.YtjndgekpdmlbiaaGreatDoor.Dk
open Go.RowKit

theorem Dk.lt {w : World} {p : Nat} {s : St} {F : Nat → Prop} (h : Dk w p s F) : ∀ k, F k → k < w.heap.size := h.2.1
theorem Dk.good {w : World} {p : Nat} {s : St} {F : Nat → Prop} (h : Dk w p s F) : s.good := h.1
theorem roomN_bd (n : Int) : 0 ≤ roomN n ∧ roomN n ≤ 4194304 := by unfold roomN; omega

set_option maxHeartbeats 400000 in
theorem new_any (n : Int) (w : World) :
    Calls Tryz.prog 9 #[.int .i64 n] w fun e w' => e = .returned (.pointer (some ⟨w.heap.size, 0, none⟩)) ∧ Dk w' w.heap.size ⟨roomN n, [], []⟩ (ext (fun _ => False) w w') ∧ Below w.heap.size w w' := by
  have HR : Hid (_) := room_any n w
  go_enter Tryz.func9, Tryz.ntmps9
  go_wp2_with (go_at_call 24; refine Calls.mono HR.out ?_; rintro e w' ⟨rfl, hw⟩; have hw' := hw.symm; subst hw')
  go_ret
  have hb : Below w.heap.size w (w.alloc (.cells #[.int .i64 (roomN n), .slice none 0 0, .slice none 0 0, .slice none 0 0] 73)) := (Below.refl _ _).alloc (Nat.le_refl _) _
  have hno : ∀ k : Nat, (fun _ : Nat => False) k → k < (w.alloc (.cells #[.int .i64 (roomN n), .slice none 0 0, .slice none 0 0, .slice none 0 0] 73)).heap.size := fun _ h => h.elim
  refine ⟨rfl, ⟨⟨List.Pairwise.nil, trivial, (roomN_bd n).1, (roomN_bd n).2⟩, ext_lt (fun _ h => h.elim) hb.size, .slice none 0 0, .slice none 0 0, .slice none 0 0, [], [], [], fun _ => False, fun _ => False, fun _ => False, ⟨heap_alloc_new _ _, Fol.nil _ _ hno, Fol.nil _ _ hno, Wt.nil _ _ hno, fun _ h => h.elim, fun _ h => h.elim, fun _ h => h.elim, id, id, id⟩, rfl, rfl, rfl, fun k hk => ?_⟩, hb⟩
  rcases hk with hk | hk | hk | hk
  · exact hk.elim
  · exact hk.elim
  · exact hk.elim
  · exact Or.inr ⟨by omega, by simp; omega⟩

set_option maxHeartbeats 1000000 in
set_option maxRecDepth 20000 in
theorem read_hit (p : Nat) (s : St) (F : Nat → Prop) (n : ByteArray) (f : Fl) (w : World) (h : Dk w p s F) (hl : look n s.now = some f) (hm : s.mass ≤ 1000000000) :
    Calls Tryz.prog 72 #[.pointer (some ⟨p, 0, none⟩), .string n] w fun e w' => ∃ v', e = .returned (.tuple #[v', .bool true]) ∧ w'.ownsRow w.heap.size 5 1 v' f.bs.length (cells8 f.bs) ∧ Below w.heap.size w w' := by
  obtain ⟨hgood, hFlt, vl, vn, vw, zl, zn, ws, Fa, Fn, Fw, hC, g1, g2, g3, g4⟩ := h
  have hnm := St.now_mass hgood
  have hum := used_mass (zn.map Ent.fl)
  rw [List.length_map] at hum
  rw [← g2] at hl hnm
  rcases splitE n zn (by rw [g2]; exact St.now_srt hgood) with ⟨ul, z, ur, hh⟩ | ⟨ul, ur, hh⟩
  · have hz := hh.hit.lookE
    rw [hl] at hz
    simp only [Option.some.injEq] at hz
    have hzb : z.bs = f.bs := by rw [hz]; rfl
    have HF : Hid (_) := find_hit vn zn Fn n ul z ur w hC.fn hh (by omega)
    have c2 := hC.cells.2.2.1
    have hzm : z ∈ zn := by rw [hh.1]; simp
    have hdat := hC.fn.data z hzm
    have hzl : z.bs.length ≤ 1000000000 := by
      have : z.bs.length ≤ mass (zn.map Ent.fl) := by
        rw [hh.1, List.map_append, mass_append, List.map_cons, mass_cons]
        simp only [Ent.fl]
        omega
      omega
    have hmid : Fol w vn (ul ++ z :: ur) Fn := hh.1 ▸ hC.fn
    obtain ⟨g, N, cap, rfl, k1, k2, k3, k4, k5, k6⟩ := shape_mid hmid
    obtain ⟨aod, Ld, capd, hd⟩ := own_slice hdat
    have HCl : Hid (∀ w1, Below w.heap.size w w1 → Calls Tryz.prog 58 #[.slice aod Ld capd] w1 fun e w' => ∃ ao' L' cap', e = .returned (.slice ao' L' cap') ∧ Hid (w'.ownsRow w.heap.size 5 1 (.slice ao' L' cap') f.bs.length (cells8 f.bs) ∧ Below w.heap.size w w')) := by
      intro w1 hb
      have hsl := (Sl.of_own hdat).below hb
      rw [hd, hzb] at hsl
      refine (clone_any _ f.bs w1 hsl (by rw [← hzb]; omega)).mono ?_
      rintro e w' ⟨v', rfl, hO, hb'⟩
      obtain ⟨ao', L', cap', rfl⟩ := own_slice hO
      exact ⟨ao', L', cap', rfl, own_base hO (fun k hk => by have := (hO.lt k hk).1; have := hb.size; omega), hb.trans (hb'.mono hb.size)⟩
    rw [hd] at k6
    clear hC hgood g1 g2 g3 g4 hdat hd hmid hh hl hz hum hnm
    go_enter Tryz.func72, Tryz.ntmps72
    go_wp2_with (first
      | (go_at_call 97; refine Calls.mono HF.out ?_; rintro e w1 ⟨rfl, hb1⟩; have c21 := below_cell hb1 c2; have k61 := below_cell hb1 k6)
      | (go_at_call 58; refine (HCl.out w1 hb1).mono ?_; rintro e w2 ⟨ao', L', cap', rfl, HX⟩))
    go_ret2
    exact ⟨_, rfl, HX.out⟩
  · rw [hh.miss.lookE] at hl
    simp at hl

set_option maxHeartbeats 400000 in
theorem read_miss (p : Nat) (s : St) (F : Nat → Prop) (n : ByteArray) (w : World) (h : Dk w p s F) (hl : look n s.now = none) (hm : s.mass ≤ 1000000000) :
    Calls Tryz.prog 72 #[.pointer (some ⟨p, 0, none⟩), .string n] w fun e w' => e = .returned (.tuple #[.slice none 0 0, .bool false]) ∧ Below w.heap.size w w' := by
  obtain ⟨hgood, hFlt, vl, vn, vw, zl, zn, ws, Fa, Fn, Fw, hC, g1, g2, g3, g4⟩ := h
  have hnm := St.now_mass hgood
  have hum := used_mass (zn.map Ent.fl)
  rw [List.length_map] at hum
  rw [← g2] at hl hnm
  rcases splitE n zn (by rw [g2]; exact St.now_srt hgood) with ⟨ul, z, ur, hh⟩ | ⟨ul, ur, hh⟩
  · rw [hh.hit.lookE] at hl
    simp at hl
  · have HF : Hid (_) := find_miss vn zn Fn n ul ur w hC.fn hh (by omega)
    have c2 := hC.cells.2.2.1
    obtain ⟨ao, N, cap, rfl⟩ := own_slice hC.fn.row
    clear hC hgood g1 g2 g3 g4 hh hl hum hnm
    go_enter Tryz.func72, Tryz.ntmps72
    go_wp2_with (go_at_call 97; refine Calls.mono HF.out ?_; rintro e w1 ⟨rfl, hb1⟩)
    go_ret2
    exact ⟨rfl, hb1⟩

end Go.Proofs.YtjndgekpdmlbiaaGreatDoor.Dk

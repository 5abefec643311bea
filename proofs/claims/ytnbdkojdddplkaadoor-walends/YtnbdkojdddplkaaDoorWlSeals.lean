/- The walk of sealsFrom. -/
import Derived.Test.YtnbdkojdddplkaaDoorWlDropF
import Derived.Deep.RegionHeldLaw
namespace Go.Proofs.YtnbdkojdddplkaaDoor.Wl
open Go.RowKit Dk

theorem run_append_bytes (w : World) (base : Nat) (v : Value) (bs : List UInt8) (ad : Addr) (L cap : Nat) (tx : List UInt8) (hown : w.ownsRow base 5 1 v bs.length (cells8 bs)) (hS : Sl w (.slice (some ad) L cap) tx) (hl : bs.length + tx.length ≤ 1000000000) (hb : base ≤ w.heap.size) :
    ∃ ao L' cap' w', (∀ ty, (Builtin.append_ #[33, 33] ty #[v, .slice (some ad) L cap]).run Tryd.prog w = .ok (.slice ao L' cap') w') ∧ w'.ownsRow base 5 1 (.slice ao L' cap') (bs ++ tx).length (cells8 (bs ++ tx)) ∧ w.grownBy w' v.ownBlock := by
  obtain ⟨i, hi, hz0, hz1, hz2⟩ := info_parts Tryd.info5
  have hL := hS.len
  subst hL
  have H := fun ty => run_append_own_at (P := Tryd.prog) w base 33 ty 5 i (.int .u8 0) 1 1 Tryd.underlying33 hi hz0 hz1 hz2 rfl (by decide) v bs.length (cells8 bs) hown ad tx.length cap (cells8 tx) (by rw [cells8_len, Nat.mul_one]) (sl_news hS) (cells8_one tx) (by simp only [maxLen]; omega) (by omega) hb
  obtain ⟨v', w', hr, g1, g2, _, _⟩ := H 0
  obtain ⟨ao', L', cap', rfl⟩ := own_slice g1
  exact ⟨ao', L', cap', w', fun _ => hr, by rw [cells8_append, List.length_append]; exact g1, g2⟩

theorem fileB_take_succ (n : Int) (ds : List (List UInt8)) (m : Nat) (h : m < ds.length) : fileB n (ds.take (m + 1)) = fileB n (ds.take m) ++ recB (n + m) ds[m] := by
  rw [take_succ_snoc ds m ds[m] (List.getElem?_eq_getElem h), fileB_append, List.length_take, Nat.min_eq_left (by omega)]
  simp [fileB]
theorem fileB_take_le (n : Int) (ds : List (List UInt8)) (m : Nat) : (fileB n (ds.take m)).length ≤ (fileB n ds).length := by
  by_cases h : m ≤ ds.length
  · have := congrArg List.length (fileB_split n ds m h)
    rw [List.length_append] at this
    omega
  · rw [List.take_of_length_le (by omega)]
    exact Nat.le_refl _

set_option maxHeartbeats 1000000 in
set_option maxRecDepth 20000 in
theorem sealsFrom_any (p pd : Nat) (first : Int) (vr : Value) (rs : List Re) (G : Nat → Prop) (k : Nat) (w : World) (h : Lg w p pd first vr rs G) (ht : Fr.Tab w) (hk : k ≤ rs.length) (hl : rs.length ≤ 1000000) (hd : ∀ r ∈ rs, r.data.length ≤ 32768) (hfl : (fileB (first + k) ((rs.map Re.data).drop k)).length ≤ 900000000) (hfit : first + rs.length ≤ 9223372036854775807) :
    Calls Tryd.prog 60 #[.pointer (some ⟨p, 0, none⟩), .int .i64 (k : Int)] w fun e w' => ∃ ao L cap, e = .returned (.slice ao L cap) ∧ Hid (w'.ownsRow w.heap.size 5 1 (.slice ao L cap) (fileB (first + k) ((rs.map Re.data).drop k)).length (cells8 (fileB (first + k) ((rs.map Re.data).drop k))) ∧ Below w.heap.size w w') := by
  obtain ⟨c0, c1, c2, cz⟩ := h.cells
  have hf0 := h.fit.1
  obtain ⟨ao0, cap0, rfl, hao⟩ := h.shape
  obtain ⟨D, HD⟩ : ∃ D, Hid (D = (rs.map Re.data).drop k) := ⟨(rs.map Re.data).drop k, (rfl : _ = _)⟩
  have hDl : D.length = rs.length - k := by rw [HD.out, List.length_drop, List.length_map]
  rw [← HD.out] at hfl ⊢
  have HR : Hid (∀ (j : Nat) (wr : World) (ao : Option Addr) (L cap : Nat), k ≤ j → (hj : j < rs.length) → wr.ownsRow w.heap.size 5 1 (.slice ao L cap) (fileB (first + k) (D.take (j - k))).length (cells8 (fileB (first + k) (D.take (j - k)))) → Below w.heap.size w wr →
      ∃ g aod Ld capd, ao0 = some ⟨g, 0, none⟩ ∧ wr.drew.cell? ⟨p, 1, none⟩ = some (.int .i64 first) ∧ wr.drew.cell? ⟨p, 2, none⟩ = some (.slice (some ⟨g, 0, none⟩) rs.length cap0) ∧ wr.drew.cell? ⟨g, j * 2, none⟩ = some (.slice aod Ld capd) ∧ Hid (Calls Tryd.prog 32 #[.int .i64 (first + j), .slice aod Ld capd] wr.drew fun e w1 => ∃ ao1 L1 cap1, e = .returned (.slice ao1 L1 cap1) ∧ w1.cell? ⟨p, 1, none⟩ = some (.int .i64 first) ∧ w1.cell? ⟨p, 2, none⟩ = some (.slice (some ⟨g, 0, none⟩) rs.length cap0) ∧ w1.cell? ⟨g, j * 2, none⟩ = some (.slice aod Ld capd) ∧ ∃ ao2 L2 cap2 w2, (∀ ty, (Builtin.append_ #[33, 33] ty #[.slice ao L cap, .slice ao1 L1 cap1]).run Tryd.prog w1 = .ok (.slice ao2 L2 cap2) w2) ∧ w2.cell? ⟨p, 1, none⟩ = some (.int .i64 first) ∧ w2.cell? ⟨p, 2, none⟩ = some (.slice (some ⟨g, 0, none⟩) rs.length cap0) ∧ w2.cell? ⟨g, j * 2, none⟩ = some (.slice aod Ld capd) ∧ Hid (w2.ownsRow w.heap.size 5 1 (.slice ao2 L2 cap2) (fileB (first + k) (D.take (j + 1 - k))).length (cells8 (fileB (first + k) (D.take (j + 1 - k)))) ∧ Below w.heap.size w w2))) := by
    intro j wr ao L cap hkj hj hO hb
    obtain ⟨g, rfl⟩ := hao (by omega)
    have hbd : Below w.heap.size w wr.drew := hb.trans ⟨rfl, rfl, rfl, Nat.le_refl _, fun _ _ => rfl⟩
    have hLd := h.below hbd
    have cd := (h.cell j hj).1
    have hS := (hLd.data rs[j] (List.getElem_mem hj)).sl
    obtain ⟨aod, capd, hdv, _, _⟩ := hS.shape
    rw [hdv] at cd hS
    refine ⟨g, aod, _, capd, rfl, below_cell hbd c1, below_cell hbd c2, below_cell hbd cd, ?_⟩
    refine (seal_any (first + j) _ rs[j].data wr.drew hS (ht.below hbd) ⟨by omega, by omega⟩ (hd _ (List.getElem_mem hj))).mono ?_
    rintro e w1 ⟨ao1, L1, cap1, rfl, hO1, hb1⟩
    have hs1 : w.heap.size ≤ wr.heap.size := hb.size
    have hb1' : Below w.heap.size w w1 := hbd.trans (hb1.mono hs1)
    have hS1 := Sl.of_own hO1
    have hrl : 0 < (recB (first + j) rs[j].data).length := by
      rw [recB_len (unseal_rec _ _ (by omega) (by omega) (hd _ (List.getElem_mem hj)))]
      omega
    obtain ⟨ad, rfl⟩ : ∃ ad, ao1 = some ad := by
      rcases own_shape hO1 with ⟨_, e⟩ | ⟨g1, cap', e, _⟩
      · omega
      · simp only [Value.slice.injEq] at e; exact ⟨_, e.1⟩
    refine ⟨some ad, L1, cap1, rfl, below_cell hb1' c1, below_cell hb1' c2, below_cell hb1' cd, ?_⟩
    have hO' : w1.ownsRow w.heap.size 5 1 (.slice ao L cap) (fileB (first + k) (D.take (j - k))).length (cells8 (fileB (first + k) (D.take (j - k)))) := own_kept hO ((Fr.of_below (F := fun _ => False) ⟨rfl, rfl, rfl, Nat.le_refl _, fun _ _ => rfl⟩ : Dk.Fr (fun _ => False) wr wr.drew).trans (G := fun _ => False) (Fr.of_below hb1) (fun _ _ h => h)) (fun _ _ => id)
    have hle := fileB_take_le (first + k) D (j - k)
    have hrs := recB_size (first + j) rs[j].data ⟨by omega, by omega⟩ (hd _ (List.getElem_mem hj))
    have hdj := hd _ (List.getElem_mem hj)
    obtain ⟨ao2, L2, cap2, w2, hr, hO2, hg2⟩ := run_append_bytes w1 w.heap.size (.slice ao L cap) _ ad L1 cap1 _ hO' hS1 (by omega) hb1'.size
    have hb2 : Below w.heap.size w w2 := hb1'.grown hg2 hb1'.size (fun x hx => (hO'.lt x hx).1)
    refine ⟨ao2, L2, cap2, w2, hr, below_cell hb2 c1, below_cell hb2 c2, below_cell hb2 cd, ?_, hb2⟩
    have hdj' : D[j - k]'(by omega) = rs[j].data := by
      have e0 := HD.out
      subst e0
      rw [List.getElem_drop, List.getElem_map]
      congr 2
      omega
    have he : fileB (first + k) (D.take (j + 1 - k)) = fileB (first + k) (D.take (j - k)) ++ recB (first + j) rs[j].data := by
      rw [show j + 1 - k = (j - k) + 1 by omega, fileB_take_succ _ _ _ (by omega), hdj', show first + (k : Int) + ((j - k : Nat) : Int) = first + (j : Int) by omega]
    rw [he]
    exact hO2
  have HC2 : Hid (∀ wr, Below w.heap.size w wr → wr.cell? ⟨p, 2, none⟩ = some (.slice ao0 rs.length cap0)) := fun wr hb => below_cell hb c2
  have hkl : k ≤ rs.length := hk
  have HDN : Hid (D.take (rs.length - k) = D) := List.take_of_length_le (by omega)
  have hfs : first + (rs.length : Int) ≤ 9223372036854775807 := hfit
  clear h ht hd hfl hao c0 c1 c2 cz HD hDl hk hfit
  generalize rs.length = N at *
  go_enter Tryd.func60, Tryd.ntmps60
  go_wp2
  go_loopw [5, 6] (fun va vi wr => ∃ (j : Nat) (ao : Option Addr) (L cap : Nat), k ≤ j ∧ j ≤ N ∧ vi = .int .i64 j ∧ va = .slice ao L cap ∧ Hid (wr.ownsRow w.heap.size 5 1 (.slice ao L cap) (fileB (first + k) (D.take (j - k))).length (cells8 (fileB (first + k) (D.take (j - k)))) ∧ Below w.heap.size w wr)) (fun _ vi _ => N - (intOf vi).toNat)
  case atStart =>
    refine ⟨k, none, 0, 0, Nat.le_refl _, hkl, rfl, rfl, ?_, Below.refl _ _⟩
    rw [Nat.sub_self, List.take_zero]
    exact World.ownsRow_nil _ _ _ _
  case round =>
    obtain ⟨j, ao, L, cap, hkj, hjN, rfl, rfl, HJ⟩ := hrel
    have e2 := HC2.out wr HJ.out.2
    by_cases hlt : j < N
    · have hlt' : (j : Int) < (N : Int) := by omega
      obtain ⟨g, aod, Ld, capd, rfl, d1, d2, d3, HS⟩ := HR.out j wr ao L cap hkj hlt HJ.out.1 HJ.out.2
      have hwr : IntKind.i64.wrap (first + (j : Int)) = first + (j : Int) := by rw [IntKind.wrap_i64]; omega
      clear HR HC2 HDN HJ
      go_wp2_with fail
      go_region_held_law (fun u => u.cell? ⟨p, 1, none⟩ = some (.int .i64 first) ∧ u.cell? ⟨p, 2, none⟩ = some (.slice (some ⟨g, 0, none⟩) N cap0) ∧ u.cell? ⟨g, j * 2, none⟩ = some (.slice aod Ld capd))
        (first | exact ⟨d1, d2, d3⟩ | exact ⟨f1, f2, f3⟩ | exact ⟨g1, g2, g3⟩)
        (first
          | (go_at_call 32; refine Calls.mono HS.out ?_; rintro e w1 ⟨ao1, L1, cap1, rfl, f1, f2, f3, ao2, L2, cap2, w2, hr, g1, g2, g3, HX⟩)
          | (refine step_append_run (by rfl) (.tmp 17) (.tmp 32) 33 33 (by rfl) _ _ (by rfl) (by rfl) (hr _) ?_))
      go_wp2
      go_roundw
      case rel => exact ⟨j + 1, ao2, L2, cap2, by omega, by omega, by go_num, rfl, HX.out⟩
      case measure => simp [intOf]; omega
    · obtain rfl : j = N := by omega
      clear HR HC2
      go_wp2
      go_ret
      have h1 := HJ.out
      rw [HDN.out] at h1
      exact ⟨ao, L, cap, rfl, h1⟩
end Go.Proofs.YtnbdkojdddplkaaDoor.Wl

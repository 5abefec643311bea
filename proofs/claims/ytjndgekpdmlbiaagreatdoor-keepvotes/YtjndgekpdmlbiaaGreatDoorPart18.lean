/- The walk of sealsFrom. The walks of From and Until. The file that an open log leaves is the log's own, whatever stood there. The walk of Until. Opening a log makes no file and adds little. -/
import Derived.Test.YtjndgekpdmlbiaaGreatDoorPart17
import Derived.Deep.RegionHeldLaw
namespace Go.Proofs.YtjndgekpdmlbiaaGreatDoor.Wl
open Go.RowKit Dk

theorem run_append_bytes (w : World) (base : Nat) (v : Value) (bs : List UInt8) (ad : Addr) (L cap : Nat) (tx : List UInt8) (hown : w.ownsRow base 5 1 v bs.length (cells8 bs)) (hS : Sl w (.slice (some ad) L cap) tx) (hl : bs.length + tx.length ≤ 1000000000) (hb : base ≤ w.heap.size) :
    ∃ ao L' cap' w', (∀ ty, (Builtin.append_ #[33, 33] ty #[v, .slice (some ad) L cap]).run Tryz.prog w = .ok (.slice ao L' cap') w') ∧ w'.ownsRow base 5 1 (.slice ao L' cap') (bs ++ tx).length (cells8 (bs ++ tx)) ∧ w.grownBy w' v.ownBlock := by
  obtain ⟨i, hi, hz0, hz1, hz2⟩ := info_parts Tryz.info5
  have hL := hS.len
  subst hL
  have H := fun ty => run_append_own_at (P := Tryz.prog) w base 33 ty 5 i (.int .u8 0) 1 1 Tryz.underlying33 hi hz0 hz1 hz2 rfl (by decide) v bs.length (cells8 bs) hown ad tx.length cap (cells8 tx) (by rw [cells8_len, Nat.mul_one]) (sl_news hS) (cells8_one tx) (by simp only [maxLen]; omega) (by omega) hb
  obtain ⟨v', w', hr, g1, g2, _, _⟩ := H 0
  obtain ⟨ao', L', cap', rfl⟩ := own_slice g1
  exact ⟨ao', L', cap', w', fun _ => hr, by rw [cells8_append, List.length_append]; exact g1, g2⟩

theorem fileB_take_succ (n : Int) (ds : List (List UInt8)) (m : Nat) (h : m < ds.length) : fileB n (ds.take (m + 1)) = fileB n (ds.take m) ++ recB (n + m) ds[m] := by
  rw [take_succ_snoc ds m ds[m] (List.getElem?_eq_getElem h), fileB_append, List.length_take, Nat.min_eq_left (by omega)]
  simp [fileB]
theorem fileB_take_le (n : Int) (ds : List (List UInt8)) (m : Nat) : (fileB n (ds.take m)).length ≤ (fileB n ds).length := by
  by_cases h : m ≤ ds.length
  · have := congrArg List.length (fileB_split n ds m h)
    rw [List.length_append] at this
    omega
  · rw [List.take_of_length_le (by omega)]
    exact Nat.le_refl _

set_option maxHeartbeats 1000000 in
set_option maxRecDepth 20000 in
theorem sealsFrom_any (p pd : Nat) (first : Int) (vr : Value) (rs : List Re) (G : Nat → Prop) (k : Nat) (w : World) (h : Lg w p pd first vr rs G) (ht : Fr.Tab w) (hk : k ≤ rs.length) (hl : rs.length ≤ 1000000) (hd : ∀ r ∈ rs, r.data.length ≤ 32768) (hfl : (fileB (first + k) ((rs.map Re.data).drop k)).length ≤ 900000000) (hfit : first + rs.length ≤ 9223372036854775807) :
    Calls Tryz.prog 133 #[.pointer (some ⟨p, 0, none⟩), .int .i64 (k : Int)] w fun e w' => ∃ ao L cap, e = .returned (.slice ao L cap) ∧ Hid (w'.ownsRow w.heap.size 5 1 (.slice ao L cap) (fileB (first + k) ((rs.map Re.data).drop k)).length (cells8 (fileB (first + k) ((rs.map Re.data).drop k))) ∧ Below w.heap.size w w') := by
  obtain ⟨c0, c1, c2, cz⟩ := h.cells
  have hf0 := h.fit.1
  obtain ⟨ao0, cap0, rfl, hao⟩ := h.shape
  obtain ⟨D, HD⟩ : ∃ D, Hid (D = (rs.map Re.data).drop k) := ⟨(rs.map Re.data).drop k, (rfl : _ = _)⟩
  have hDl : D.length = rs.length - k := by rw [HD.out, List.length_drop, List.length_map]
  rw [← HD.out] at hfl ⊢
  have HR : Hid (∀ (j : Nat) (wr : World) (ao : Option Addr) (L cap : Nat), k ≤ j → (hj : j < rs.length) → wr.ownsRow w.heap.size 5 1 (.slice ao L cap) (fileB (first + k) (D.take (j - k))).length (cells8 (fileB (first + k) (D.take (j - k)))) → Below w.heap.size w wr →
      ∃ g aod Ld capd, ao0 = some ⟨g, 0, none⟩ ∧ wr.drew.cell? ⟨p, 1, none⟩ = some (.int .i64 first) ∧ wr.drew.cell? ⟨p, 2, none⟩ = some (.slice (some ⟨g, 0, none⟩) rs.length cap0) ∧ wr.drew.cell? ⟨g, j * 2, none⟩ = some (.slice aod Ld capd) ∧ Hid (Calls Tryz.prog 137 #[.int .i64 (first + j), .slice aod Ld capd] wr.drew fun e w1 => ∃ ao1 L1 cap1, e = .returned (.slice ao1 L1 cap1) ∧ w1.cell? ⟨p, 1, none⟩ = some (.int .i64 first) ∧ w1.cell? ⟨p, 2, none⟩ = some (.slice (some ⟨g, 0, none⟩) rs.length cap0) ∧ w1.cell? ⟨g, j * 2, none⟩ = some (.slice aod Ld capd) ∧ ∃ ao2 L2 cap2 w2, (∀ ty, (Builtin.append_ #[33, 33] ty #[.slice ao L cap, .slice ao1 L1 cap1]).run Tryz.prog w1 = .ok (.slice ao2 L2 cap2) w2) ∧ w2.cell? ⟨p, 1, none⟩ = some (.int .i64 first) ∧ w2.cell? ⟨p, 2, none⟩ = some (.slice (some ⟨g, 0, none⟩) rs.length cap0) ∧ w2.cell? ⟨g, j * 2, none⟩ = some (.slice aod Ld capd) ∧ Hid (w2.ownsRow w.heap.size 5 1 (.slice ao2 L2 cap2) (fileB (first + k) (D.take (j + 1 - k))).length (cells8 (fileB (first + k) (D.take (j + 1 - k)))) ∧ Below w.heap.size w w2))) := by
    intro j wr ao L cap hkj hj hO hb
    obtain ⟨g, rfl⟩ := hao (by omega)
    have hbd : Below w.heap.size w wr.drew := hb.trans ⟨rfl, rfl, rfl, Nat.le_refl _, fun _ _ => rfl⟩
    have hLd := h.below hbd
    have cd := (h.cell j hj).1
    have hS := (hLd.data rs[j] (List.getElem_mem hj)).sl
    obtain ⟨aod, capd, hdv, _, _⟩ := hS.shape
    rw [hdv] at cd hS
    refine ⟨g, aod, _, capd, rfl, below_cell hbd c1, below_cell hbd c2, below_cell hbd cd, ?_⟩
    refine (seal_any (first + j) _ rs[j].data wr.drew hS (ht.below hbd) ⟨by omega, by omega⟩ (hd _ (List.getElem_mem hj))).mono ?_
    rintro e w1 ⟨ao1, L1, cap1, rfl, hO1, hb1⟩
    have hs1 : w.heap.size ≤ wr.heap.size := hb.size
    have hb1' : Below w.heap.size w w1 := hbd.trans (hb1.mono hs1)
    have hS1 := Sl.of_own hO1
    have hrl : 0 < (recB (first + j) rs[j].data).length := by
      rw [recB_len (unseal_rec _ _ (by omega) (by omega) (hd _ (List.getElem_mem hj)))]
      omega
    obtain ⟨ad, rfl⟩ : ∃ ad, ao1 = some ad := by
      rcases own_shape hO1 with ⟨_, e⟩ | ⟨g1, cap', e, _⟩
      · omega
      · simp only [Value.slice.injEq] at e; exact ⟨_, e.1⟩
    refine ⟨some ad, L1, cap1, rfl, below_cell hb1' c1, below_cell hb1' c2, below_cell hb1' cd, ?_⟩
    have hO' : w1.ownsRow w.heap.size 5 1 (.slice ao L cap) (fileB (first + k) (D.take (j - k))).length (cells8 (fileB (first + k) (D.take (j - k)))) := own_kept hO ((Fr.of_below (F := fun _ => False) ⟨rfl, rfl, rfl, Nat.le_refl _, fun _ _ => rfl⟩ : Dk.Fr (fun _ => False) wr wr.drew).trans (G := fun _ => False) (Fr.of_below hb1) (fun _ _ h => h)) (fun _ _ => id)
    have hle := fileB_take_le (first + k) D (j - k)
    have hrs := recB_size (first + j) rs[j].data ⟨by omega, by omega⟩ (hd _ (List.getElem_mem hj))
    have hdj := hd _ (List.getElem_mem hj)
    obtain ⟨ao2, L2, cap2, w2, hr, hO2, hg2⟩ := run_append_bytes w1 w.heap.size (.slice ao L cap) _ ad L1 cap1 _ hO' hS1 (by omega) hb1'.size
    have hb2 : Below w.heap.size w w2 := hb1'.grown hg2 hb1'.size (fun x hx => (hO'.lt x hx).1)
    refine ⟨ao2, L2, cap2, w2, hr, below_cell hb2 c1, below_cell hb2 c2, below_cell hb2 cd, ?_, hb2⟩
    have hdj' : D[j - k]'(by omega) = rs[j].data := by
      have e0 := HD.out
      subst e0
      rw [List.getElem_drop, List.getElem_map]
      congr 2
      omega
    have he : fileB (first + k) (D.take (j + 1 - k)) = fileB (first + k) (D.take (j - k)) ++ recB (first + j) rs[j].data := by
      rw [show j + 1 - k = (j - k) + 1 by omega, fileB_take_succ _ _ _ (by omega), hdj', show first + (k : Int) + ((j - k : Nat) : Int) = first + (j : Int) by omega]
    rw [he]
    exact hO2
  have HC2 : Hid (∀ wr, Below w.heap.size w wr → wr.cell? ⟨p, 2, none⟩ = some (.slice ao0 rs.length cap0)) := fun wr hb => below_cell hb c2
  have hkl : k ≤ rs.length := hk
  have HDN : Hid (D.take (rs.length - k) = D) := List.take_of_length_le (by omega)
  have hfs : first + (rs.length : Int) ≤ 9223372036854775807 := hfit
  clear h ht hd hfl hao c0 c1 c2 cz HD hDl hk hfit
  generalize rs.length = N at *
  go_enter Tryz.func133, Tryz.ntmps133
  go_wp2
  go_loopw [5, 6] (fun va vi wr => ∃ (j : Nat) (ao : Option Addr) (L cap : Nat), k ≤ j ∧ j ≤ N ∧ vi = .int .i64 j ∧ va = .slice ao L cap ∧ Hid (wr.ownsRow w.heap.size 5 1 (.slice ao L cap) (fileB (first + k) (D.take (j - k))).length (cells8 (fileB (first + k) (D.take (j - k)))) ∧ Below w.heap.size w wr)) (fun _ vi _ => N - (intOf vi).toNat)
  case atStart =>
    refine ⟨k, none, 0, 0, Nat.le_refl _, hkl, rfl, rfl, ?_, Below.refl _ _⟩
    rw [Nat.sub_self, List.take_zero]
    exact World.ownsRow_nil _ _ _ _
  case round =>
    obtain ⟨j, ao, L, cap, hkj, hjN, rfl, rfl, HJ⟩ := hrel
    have e2 := HC2.out wr HJ.out.2
    by_cases hlt : j < N
    · have hlt' : (j : Int) < (N : Int) := by omega
      obtain ⟨g, aod, Ld, capd, rfl, d1, d2, d3, HS⟩ := HR.out j wr ao L cap hkj hlt HJ.out.1 HJ.out.2
      have hwr : IntKind.i64.wrap (first + (j : Int)) = first + (j : Int) := by rw [IntKind.wrap_i64]; omega
      clear HR HC2 HDN HJ
      go_wp2_with fail
      go_region_held_law (fun u => u.cell? ⟨p, 1, none⟩ = some (.int .i64 first) ∧ u.cell? ⟨p, 2, none⟩ = some (.slice (some ⟨g, 0, none⟩) N cap0) ∧ u.cell? ⟨g, j * 2, none⟩ = some (.slice aod Ld capd))
        (first | exact ⟨d1, d2, d3⟩ | exact ⟨f1, f2, f3⟩ | exact ⟨g1, g2, g3⟩)
        (first
          | (go_at_call 137; refine Calls.mono HS.out ?_; rintro e w1 ⟨ao1, L1, cap1, rfl, f1, f2, f3, ao2, L2, cap2, w2, hr, g1, g2, g3, HX⟩)
          | (refine step_append_run (by rfl) (.tmp 17) (.tmp 32) 33 33 (by rfl) _ _ (by rfl) (by rfl) (hr _) ?_))
      go_wp2
      go_roundw
      case rel => exact ⟨j + 1, ao2, L2, cap2, by omega, by omega, by go_num, rfl, HX.out⟩
      case measure => simp [intOf]; omega
    · obtain rfl : j = N := by omega
      clear HR HC2
      go_wp2
      go_ret
      have h1 := HJ.out
      rw [HDN.out] at h1
      exact ⟨ao, L, cap, rfl, h1⟩
end Go.Proofs.YtjndgekpdmlbiaaGreatDoor.Wl
namespace Go.Proofs.YtjndgekpdmlbiaaGreatDoor.Wl
open Go.RowKit Dk

/-- The name of the copy. -/
def nmC : ByteArray := ⟨#[119, 46, 99, 111, 112, 121]⟩

/-- A log whose memory goes on by itself. -/
theorem LW.own {w w' : World} {B p pd : Nat} {s : St} {F G : Nat → Prop} {first first' : Int} {ds ds' : List (List UInt8)} {vr : Value} {rs : List Re} (h : LW w B p pd s F first ds) (hG : ∀ k, G k → ¬ F k ∧ B ≤ k) (hL : Lg w' p pd first' vr rs G) (hd : rs.map Re.data = ds') (hf : Dk.Fr (fun k => G k ∨ k = p) w w') :
    LW w' B p pd s F first' ds' ∧ Dk.Fr (fun k => F k ∨ B ≤ k) w w' := by
  refine ⟨⟨h.dk.kept hf (fun k hk hk2 => ?_), ⟨vr, rs, G, hL, hd, hG⟩, h.np, h.new⟩, hf.mono (fun k _ hk => ?_)⟩
  · rcases hk2 with hk2 | rfl
    · exact (hG k hk2).1 hk
    · exact h.np hk
  · rcases hk with hk | rfl
    · exact Or.inr (hG k hk).2
    · exact Or.inr h.new
theorem LW.dropBack {w : World} {B p pd : Nat} {s : St} {F : Nat → Prop} {first : Int} {ds : List (List UInt8)} (h : LW w B p pd s F first ds) (k : Nat) (hk : k < ds.length) (hl : ds.length ≤ 1000000000) :
    Calls Tryz.prog 80 #[.pointer (some ⟨p, 0, none⟩), .int .i64 (k : Int)] w fun e w' => e = .returned (.tuple #[]) ∧ Hid (LW w' B p pd s F (if k = 0 then 0 else first) (ds.take k) ∧ Dk.Fr (fun k => F k ∨ B ≤ k) w w') := by
  obtain ⟨_, ⟨vr, rs, G, h1, rfl, h3⟩, _, _⟩ := id h
  rw [List.length_map] at hk hl
  refine (dropBack_any p pd first vr rs G k w h1 hk hl).mono ?_
  rintro e w' ⟨rfl, ⟨vr', hL⟩, hf⟩
  exact ⟨rfl, h.own h3 hL (by rw [List.map_take]) hf⟩
theorem LW.dropFront {w : World} {B p pd : Nat} {s : St} {F : Nat → Prop} {first : Int} {ds : List (List UInt8)} (h : LW w B p pd s F first ds) (k : Nat) (h0 : 0 < k) (hk : k ≤ ds.length) (hl : ds.length ≤ 1000000000) (hfl : (fileB first ds).length ≤ 1000000000) (hfit : first + ds.length ≤ 9223372036854775807) :
    Calls Tryz.prog 112 #[.pointer (some ⟨p, 0, none⟩), .int .i64 (k : Int)] w fun e w' => e = .returned (.tuple #[]) ∧ Hid (LW w' B p pd s F (if k = ds.length then 0 else first + k) (ds.drop k) ∧ Dk.Fr (fun k => F k ∨ B ≤ k) w w') := by
  obtain ⟨_, ⟨vr, rs, G, h1, rfl, h3⟩, _, _⟩ := id h
  rw [List.length_map] at hk hl hfit ⊢
  refine (dropFront_any p pd first vr rs G k w h1 h0 hk hl hfl hfit).mono ?_
  rintro e w' ⟨rfl, ⟨vr', rs', hL, hd⟩, hf⟩
  exact ⟨rfl, h.own h3 hL hd hf⟩
theorem LW.endOf {w : World} {B p pd : Nat} {s : St} {F : Nat → Prop} {first : Int} {ds : List (List UInt8)} (h : LW w B p pd s F first ds) (k : Nat) (hk : k ≤ ds.length) (hl : ds.length ≤ 1000000000) :
    Calls Tryz.prog 77 #[.pointer (some ⟨p, 0, none⟩), .int .i64 (k : Int)] w fun e w' => e = .returned (.int .i64 ((fileB first (ds.take k)).length : Nat)) ∧ w' = w := by
  obtain ⟨_, ⟨vr, rs, G, h1, rfl, h3⟩, _, _⟩ := id h
  rw [List.length_map] at hk hl
  exact endOf_any p pd first vr rs G k w h1 hk hl
theorem LW.seals {w : World} {B p pd : Nat} {s : St} {F : Nat → Prop} {first : Int} {ds : List (List UInt8)} (h : LW w B p pd s F first ds) (ht : Fr.Tab w) (k : Nat) (hk : k ≤ ds.length) (hl : ds.length ≤ 1000000) (hd : ∀ d ∈ ds, d.length ≤ 32768) (hfl : (fileB first ds).length ≤ 900000000) (hfit : first + ds.length ≤ 9223372036854775807) :
    Calls Tryz.prog 133 #[.pointer (some ⟨p, 0, none⟩), .int .i64 (k : Int)] w fun e w' => ∃ ao L cap, e = .returned (.slice ao L cap) ∧ Hid (w'.ownsRow w.heap.size 5 1 (.slice ao L cap) (fileB (first + k) (ds.drop k)).length (cells8 (fileB (first + k) (ds.drop k))) ∧ Below w.heap.size w w') := by
  obtain ⟨_, ⟨vr, rs, G, h1, rfl, h3⟩, _, _⟩ := id h
  have hsp := congrArg List.length (fileB_split first (rs.map Re.data) k hk)
  rw [List.length_append] at hsp
  rw [List.length_map] at hk hl hfit
  exact sealsFrom_any p pd first vr rs G k w h1 ht hk hl (fun r hr => hd _ (List.mem_map_of_mem hr)) (by omega) hfit
theorem LW.cell2 {w : World} {B p pd : Nat} {s : St} {F : Nat → Prop} {first : Int} {ds : List (List UInt8)} (h : LW w B p pd s F first ds) : ∃ ao cap, w.cell? ⟨p, 2, none⟩ = some (.slice ao ds.length cap) := by
  obtain ⟨_, ⟨vr, rs, G, h1, rfl, h3⟩, _, _⟩ := id h
  obtain ⟨ao, cap, rfl, _⟩ := h1.shape
  rw [List.length_map]
  exact ⟨ao, cap, h1.cells.2.2.1⟩
theorem LW.fit {w : World} {B p pd : Nat} {s : St} {F : Nat → Prop} {first : Int} {ds : List (List UInt8)} (h : LW w B p pd s F first ds) : 0 ≤ first ∧ first + ds.length ≤ 9223372036854775808 ∧ (ds = [] → first = 0) := by
  obtain ⟨_, ⟨vr, rs, G, h1, rfl, h3⟩, _, _⟩ := id h
  rw [List.length_map]
  exact ⟨h1.fit.1, h1.fit.2, fun e => h1.zero (List.map_eq_nil_iff.1 e)⟩

set_option maxHeartbeats 400000 in
theorem from_low (p : Nat) (n : Int) (w : World) (hn : n < 1) : Calls Tryz.prog 49 #[.pointer (some ⟨p, 0, none⟩), .int .i64 n] w fun e w' => e = .returned (.int .i64 1) ∧ w' = w := by
  go_enter Tryz.func49, Tryz.ntmps49
  go_wp2
  go_ret
  exact ⟨rfl, rfl⟩
set_option maxHeartbeats 400000 in
theorem until_low (p : Nat) (n : Int) (w : World) (hn : n < 1) : Calls Tryz.prog 87 #[.pointer (some ⟨p, 0, none⟩), .int .i64 n] w fun e w' => e = .returned (.int .i64 1) ∧ w' = w := by
  go_enter Tryz.func87, Tryz.ntmps87
  go_wp2
  go_ret
  exact ⟨rfl, rfl⟩

set_option maxHeartbeats 1000000 in
theorem from_same (B p pd : Nat) (s : St) (F : Nat → Prop) (first : Int) (ds : List (List UInt8)) (n : Int) (w : World) (h : LW w B p pd s F first ds) (h1 : 1 ≤ n) (hn : n ≤ 9223372036854775807) (hk : cnt first ds (n - 1) = ds.length) :
    Calls Tryz.prog 49 #[.pointer (some ⟨p, 0, none⟩), .int .i64 n] w fun e w' => e = .returned (.int .i64 0) ∧ ∃ m, w' = w.drewN m := by
  have HC : Hid (_) := count_any B p pd s F first ds (n - 1) w h (by omega) (by omega)
  rw [hk] at HC
  obtain ⟨ao, cap, c2⟩ := h.cell2
  have HD : Hid (∀ m, (w.drewN m).cell? ⟨p, 2, none⟩ = some (.slice ao ds.length cap)) := fun m => c2
  clear h hk c2
  generalize ds.length = N at *
  go_enter Tryz.func49, Tryz.ntmps49
  go_wp2_with (go_at_call 79; refine Calls.mono HC.out ?_; rintro e w1 ⟨rfl, m, rfl⟩; have d2 := HD.out m; clear HD)
  go_ret
  exact ⟨rfl, m, rfl⟩

set_option maxHeartbeats 2000000 in
set_option maxRecDepth 20000 in
theorem from_ok (B p pd : Nat) (s : St) (F : Nat → Prop) (first : Int) (ds : List (List UInt8)) (n : Int) (k : Nat) (f : Fl) (w : World) (h : LW w B p pd s F first ds) (h1 : 1 ≤ n) (hn : n ≤ 9223372036854775807) (hk : cnt first ds (n - 1) = k) (hlt : k < ds.length) (hl : ds.length ≤ 1000000000)
    (hlook : Dk.look nmW s.now = some f) (hfb : f.bs = fileB first ds) (hm : s.mass + 1 ≤ 1000000000) :
    Calls Tryz.prog 49 #[.pointer (some ⟨p, 0, none⟩), .int .i64 n] w fun e w' => e = .returned (.int .i64 0) ∧ Hid (∃ F', LW w' B p pd (s.push (.cut nmW (fileB first (ds.take k)).length)) F' (if k = 0 then 0 else first) (ds.take k) ∧ (∀ j, F' j → F j ∨ w.heap.size ≤ j) ∧ Dk.Fr (fun j => F j ∨ B ≤ j) w w') := by
  have HC : Hid (_) := count_any B p pd s F first ds (n - 1) w h (by omega) (by omega)
  rw [hk] at HC
  obtain ⟨ao, cap, c2⟩ := h.cell2
  have c0 := h.cell0
  have HD : Hid (∀ m, (w.drewN m).cell? ⟨p, 2, none⟩ = some (.slice ao ds.length cap)) := fun m => c2
  have HD0 : Hid (∀ m, (w.drewN m).drew.cell? ⟨p, 0, none⟩ = some (.pointer (some ⟨pd, 0, none⟩))) := fun m => c0
  obtain ⟨z, Hz⟩ : ∃ z, Hid (z = (fileB first (ds.take k)).length) := ⟨_, (rfl : _ = _)⟩
  rw [← Hz.out]
  have hzl : z ≤ f.bs.length := by rw [Hz.out, hfb]; exact fileB_take_le first ds k
  obtain ⟨f', Hf'⟩ : ∃ f', Hid (f' = if k = 0 then 0 else first) := ⟨if k = 0 then 0 else first, (rfl : _ = _)⟩
  rw [← Hf'.out]
  have HE : Hid (∀ m, Calls Tryz.prog 77 #[.pointer (some ⟨p, 0, none⟩), .int .i64 (k : Int)] (w.drewN m).drew fun e w' => e = .returned (.int .i64 (z : Int)) ∧ w' = (w.drewN m).drew) := fun m => by
    have := ((h.drew m).drew 1).endOf k (by omega) hl
    rw [← Hz.out] at this
    exact this
  have HX : Hid (∀ m, Calls Tryz.prog 78 #[.pointer (some ⟨pd, 0, none⟩), .string nmW, .int .i64 (z : Int)] (w.drewN m).drew fun e w3 => e = .returned (.int .i64 0) ∧ w3.cell? ⟨p, 0, none⟩ = some (.pointer (some ⟨pd, 0, none⟩)) ∧ Hid (Calls Tryz.prog 80 #[.pointer (some ⟨p, 0, none⟩), .int .i64 (k : Int)] w3 fun e w' => e = .returned (.tuple #[]) ∧ Hid (∃ F', LW w' B p pd (s.push (.cut nmW z)) F' f' (ds.take k) ∧ (∀ j, F' j → F j ∨ w.heap.size ≤ j) ∧ Dk.Fr (fun j => F j ∨ B ≤ j) w w'))) := by
    intro m
    have hbd : Below w.heap.size w (w.drewN m).drew := ⟨rfl, rfl, rfl, Nat.le_refl _, fun _ _ => rfl⟩
    have hW := h.below hbd
    refine (cut_ok pd s F nmW z f (w.drewN m).drew hW.dk hlook hzl hm).mono ?_
    rintro e w3 ⟨rfl, hD3, hf3⟩
    have hW3 := hW.disk hD3 hf3
    refine ⟨rfl, hW3.cell0, ?_⟩
    refine (hW3.dropBack k hlt hl).mono ?_
    rintro e w' ⟨rfl, hL, hf⟩
    rw [← Hf'.out] at hL
    refine ⟨rfl, _, hL, fun j hj => ?_, ((Fr.of_below hbd).trans (hf3.mono (G := fun j => F j ∨ B ≤ j) (fun _ _ h => Or.inl h)) (fun _ _ h => h)).trans hf (fun j hj hF => ?_)⟩
    · rcases hj with hj | hj
      · exact Or.inl hj
      · exact Or.inr hj.1
    · rcases hF with (hF | hF) | hF
      · exact Or.inl hF
      · have := hF.1
        simp at this
        omega
      · exact Or.inr hF
  have hne : ((k : Int) == (ds.length : Int)) = false := by rw [beq_eq_false_iff_ne]; omega
  simp only [nmW] at HX ⊢
  obtain ⟨PP, HPP⟩ : ∃ PP : World → Prop, Hid (PP = fun w' => ∃ F', LW w' B p pd (s.push (.cut ⟨#[119]⟩ z)) F' f' (ds.take k) ∧ (∀ j, F' j → F j ∨ w.heap.size ≤ j) ∧ Dk.Fr (fun j => F j ∨ B ≤ j) w w') := ⟨_, (rfl : _ = _)⟩
  have HP := HPP.out
  rw [funext_iff] at HP
  simp only [← HP] at HX ⊢
  clear h hk hlt hlook hfb hzl hm hl c2 c0 Hz Hf' HP HPP
  generalize ds.length = N at *
  go_enter Tryz.func49, Tryz.ntmps49
  go_wp2_with (go_at_call 79; refine Calls.mono HC.out ?_; rintro e w1 ⟨rfl, m, rfl⟩; have d2 := HD.out m; have d0 := HD0.out m; have HEm : Hid (_) := HE.out m; have HXm : Hid (_) := HX.out m; clear HD HD0 HE HX)
  go_region_held (fun u => u.cell? ⟨p, 0, none⟩ = some (.pointer (some ⟨pd, 0, none⟩)))
    (first | exact d0 | exact d3)
    (first
      | (go_at_call 77; refine Calls.mono HEm.out ?_; rintro e w' ⟨rfl, hw⟩; have hw' := hw.symm; subst hw')
      | (go_at_call 78; refine Calls.mono HXm.out ?_; rintro e w3 ⟨rfl, d3, HY⟩))
  go_wp2_with (go_at_call 80; refine Calls.mono HY.out ?_; rintro e w4 ⟨rfl, HZ⟩)
  go_ret
  exact ⟨rfl, HZ⟩
end Go.Proofs.YtjndgekpdmlbiaaGreatDoor.Wl
namespace Go.Proofs.YtjndgekpdmlbiaaGreatDoor.Wl
open Go.RowKit Dk

theorem look_ins (f : Fl) : ∀ fs : List Fl, (∀ x ∈ fs, x.name ≠ f.name) → Dk.look f.name (Dk.ins f fs) = some f
  | [], _ => by simp [Dk.look, Dk.ins]
  | x :: r, h => by
    have hx : x.name ≠ f.name := h x List.mem_cons_self
    have ih := look_ins f r (fun y hy => h y (List.mem_cons_of_mem _ hy))
    unfold Dk.ins
    split
    · simp [Dk.look]
    · unfold Dk.look at ih ⊢
      rw [List.find?_cons_of_neg (by simpa using hx)]
      exact ih
theorem del_ne (n : ByteArray) (fs : List Fl) : ∀ x ∈ Dk.del n fs, x.name ≠ n := by
  intro x hx
  unfold Dk.del at hx
  simpa using (List.mem_filter.1 hx).2
theorem open_file (s : St) (g : Int) (ds : List (List UInt8)) (h : loadR (Fr.scanL (fileOf s nmW)).1 0 [] = (g, ds)) : fileOf (openS s) nmW = fileB g ds := by
  have hp := (load_any _ g ds h).1
  have hfo : fileOf (strays s (s.now.map Fl.name)) nmW = fileOf s nmW := by unfold fileOf; rw [strays_look]
  unfold openS
  rw [h]
  simp only
  by_cases hlt : (fileB g ds).length < (fileOf s nmW).length
  · rw [if_pos hlt]
    have hl : ∃ f, Dk.look nmW (strays s (s.now.map Fl.name)).now = some f ∧ f.bs = fileOf s nmW := by
      rw [← hfo]
      rw [← hfo] at hlt
      unfold fileOf at hlt ⊢
      cases hk : Dk.look nmW (strays s (s.now.map Fl.name)).now with
      | none => rw [hk] at hlt; simp at hlt
      | some f => exact ⟨f, rfl, rfl⟩
    obtain ⟨f, hf, hfb⟩ := hl
    have hnow : ((strays s (s.now.map Fl.name)).push (.cut nmW (fileB g ds).length)).now = Dk.ins ⟨nmW, f.bs.take (fileB g ds).length⟩ (Dk.del nmW (strays s (s.now.map Fl.name)).now) := by
      rw [St.push_now]
      unfold Dk.ap
      simp only [hf]
    unfold fileOf
    rw [hnow, look_ins ⟨nmW, f.bs.take (fileB g ds).length⟩ _ (del_ne nmW _)]
    show f.bs.take (fileB g ds).length = _
    rw [hfb]
    obtain ⟨t, ht⟩ := hp
    rw [← ht, List.take_left]
  · rw [if_neg hlt, hfo]
    obtain ⟨t, ht⟩ := hp
    rw [← ht, List.length_append] at hlt
    have : t = [] := List.eq_nil_of_length_eq_zero (by omega)
    rw [← ht, this, List.append_nil]
end Go.Proofs.YtjndgekpdmlbiaaGreatDoor.Wl
namespace Go.Proofs.YtjndgekpdmlbiaaGreatDoor.Wl
open Go.RowKit Dk

theorem look_app_some (n : ByteArray) (b : List UInt8) (fs : List Fl) : (Dk.look n (Dk.ap fs (.app n b))).isSome = true := by
  simp only [Dk.ap]
  rw [look_ins ⟨n, _⟩ (Dk.del n fs) (del_ne n fs)]
  rfl

set_option maxHeartbeats 1000000 in
theorem until_same (B p pd : Nat) (s : St) (F : Nat → Prop) (first : Int) (ds : List (List UInt8)) (n : Int) (w : World) (h : LW w B p pd s F first ds) (h1 : 1 ≤ n) (hn : n ≤ 9223372036854775806) (hk : cnt first ds n = 0) :
    Calls Tryz.prog 87 #[.pointer (some ⟨p, 0, none⟩), .int .i64 n] w fun e w' => e = .returned (.int .i64 0) ∧ ∃ m, w' = w.drewN m := by
  have HC : Hid (_) := count_any B p pd s F first ds n w h (by omega) (by omega)
  rw [hk] at HC
  clear h hk
  go_enter Tryz.func87, Tryz.ntmps87
  go_wp2_with (go_at_call 79; refine Calls.mono HC.out ?_; rintro e w1 ⟨rfl, m, rfl⟩)
  go_ret
  exact ⟨rfl, m, rfl⟩

set_option maxHeartbeats 1000000 in
theorem cutFront_all (B p pd : Nat) (s : St) (F : Nat → Prop) (first : Int) (ds : List (List UInt8)) (f : Fl) (w : World) (h : LW w B p pd s F first ds) (hlook : Dk.look nmW s.now = some f) (hm : s.mass + 1 ≤ 1000000000) :
    Calls Tryz.prog 111 #[.pointer (some ⟨p, 0, none⟩), .int .i64 (ds.length : Int)] w fun e w' => e = .returned (.int .i64 0) ∧ Hid (∃ F', LW w' B p pd (s.push (.cut nmW 0)) F' first ds ∧ (∀ j, F' j → F j ∨ w.heap.size ≤ j) ∧ Dk.Fr F w w') := by
  obtain ⟨ao, cap, c2⟩ := h.cell2
  have c0 := h.cell0
  have HX : Hid (Calls Tryz.prog 78 #[.pointer (some ⟨pd, 0, none⟩), .string nmW, .int .i64 ((0 : Nat) : Int)] w fun e w3 => e = .returned (.int .i64 0) ∧ Hid (∃ F', LW w3 B p pd (s.push (.cut nmW 0)) F' first ds ∧ (∀ j, F' j → F j ∨ w.heap.size ≤ j) ∧ Dk.Fr F w w3)) := by
    refine (cut_ok pd s F nmW 0 f w h.dk hlook (Nat.zero_le _) hm).mono ?_
    rintro e w3 ⟨rfl, hD3, hf3⟩
    exact ⟨rfl, _, h.disk hD3 hf3, fun j hj => by rcases hj with hj | hj; exact Or.inl hj; exact Or.inr hj.1, hf3⟩
  obtain ⟨PP, HPP⟩ : ∃ PP : World → Prop, Hid (PP = fun w3 => ∃ F', LW w3 B p pd (s.push (.cut nmW 0)) F' first ds ∧ (∀ j, F' j → F j ∨ w.heap.size ≤ j) ∧ Dk.Fr F w w3) := ⟨_, (rfl : _ = _)⟩
  have HP := HPP.out
  rw [funext_iff] at HP
  simp only [← HP] at HX ⊢
  simp only [nmW] at HX
  clear h hlook hm HP HPP
  generalize ds.length = N at *
  go_enter Tryz.func111, Tryz.ntmps111
  go_wp2_with (go_at_call 78; refine Calls.mono HX.out ?_; rintro e w3 ⟨rfl, HY⟩)
  go_ret
  exact ⟨rfl, HY⟩

set_option maxHeartbeats 2000000 in
set_option maxRecDepth 20000 in
theorem cutFront_some (B p pd : Nat) (s : St) (F : Nat → Prop) (first : Int) (ds : List (List UInt8)) (k : Nat) (w : World) (h : LW w B p pd s F first ds) (ht : Fr.Tab w) (hk : k < ds.length) (hl : ds.length ≤ 1000000) (hd : ∀ d ∈ ds, d.length ≤ 32768) (hfl : (fileB first ds).length ≤ 900000) (hfit : first + ds.length ≤ 9223372036854775807)
    (hr : (used s.now : Int) + (fileB (first + k) (ds.drop k)).length ≤ s.room) (hf64 : (Dk.look nmC s.now).isSome = true ∨ s.now.length < 64) (hm : s.mass + 1000000 ≤ 1000000000) :
    Calls Tryz.prog 111 #[.pointer (some ⟨p, 0, none⟩), .int .i64 (k : Int)] w fun e w' => e = .returned (.int .i64 0) ∧ Hid (∃ F', LW w' B p pd ((s.push (.app nmC (fileB (first + k) (ds.drop k)))).push (.mov nmC nmW)) F' first ds ∧ (∀ j, F' j → F j ∨ w.heap.size ≤ j) ∧ Dk.Fr F w w') := by
  obtain ⟨ao, cap, c2⟩ := h.cell2
  have c0 := h.cell0
  have c0d : w.drew.cell? ⟨p, 0, none⟩ = some (.pointer (some ⟨pd, 0, none⟩)) := c0
  have hsp := congrArg List.length (fileB_split first ds k (by omega))
  rw [List.length_append] at hsp
  have HS0 : Hid (_) := (h.drew 1).seals (ht.drew 1) k (by omega) hl hd (by omega) hfit
  obtain ⟨Y, HY⟩ : ∃ Y, Hid (Y = fileB (first + k) (ds.drop k)) := ⟨_, (rfl : _ = _)⟩
  rw [← HY.out] at hr HS0 hsp ⊢
  have HS : Hid (Calls Tryz.prog 133 #[.pointer (some ⟨p, 0, none⟩), .int .i64 (k : Int)] w.drew fun e w2 => ∃ ao L cap, e = .returned (.slice ao L cap) ∧ w2.cell? ⟨p, 0, none⟩ = some (.pointer (some ⟨pd, 0, none⟩)) ∧ Hid (Calls Tryz.prog 132 #[.pointer (some ⟨pd, 0, none⟩), .string nmC, .slice ao L cap] w2 fun e w3 => e = .returned (.int .i64 0) ∧ w3.cell? ⟨p, 0, none⟩ = some (.pointer (some ⟨pd, 0, none⟩)) ∧ Hid (Calls Tryz.prog 134 #[.pointer (some ⟨pd, 0, none⟩), .string nmC, .string nmW] w3 fun e w4 => e = .returned (.int .i64 0) ∧ Hid (∃ F', LW w4 B p pd ((s.push (.app nmC Y)).push (.mov nmC nmW)) F' first ds ∧ (∀ j, F' j → F j ∨ w.heap.size ≤ j) ∧ Dk.Fr F w w4)))) := by
    refine Calls.mono HS0.out ?_
    rintro e w2 ⟨ao2, L2, cap2, rfl, hO2, hb2⟩
    have hbd : Below w.heap.size w (w.drewN 1) := ⟨rfl, rfl, rfl, Nat.le_refl _, fun _ _ => rfl⟩
    have hb2' : Below w.heap.size w w2 := hbd.trans hb2
    have hW2 := h.below hb2'
    refine ⟨ao2, L2, cap2, rfl, hW2.cell0, ?_⟩
    refine (append_ok pd s F nmC _ Y w2 hW2.dk (Sl.of_own hO2) (by decide) hr hf64 (by omega)).mono ?_
    rintro e w3 ⟨rfl, hD3, hf3⟩
    have hW3 := hW2.disk hD3 hf3
    refine ⟨rfl, hW3.cell0, ?_⟩
    refine (move_some pd (s.push (.app nmC Y)) _ nmC nmW w3 hW3.dk ?_ (by decide) (by rw [St.push_mass]; simp only [Ch.mass]; omega)).mono ?_
    · rw [St.push_now]
      exact look_app_some _ _ _
    · rintro e w4 ⟨rfl, hD4, hf4⟩
      have hW4 := hW3.disk hD4 hf4
      have hs2 := hb2'.size
      have hs3 := hf3.size
      refine ⟨rfl, _, hW4, fun j hj => ?_, ((Fr.of_below hb2').trans hf3 (fun _ _ h => h)).trans hf4 (fun j hj hF => ?_)⟩
      · rcases hj with (hj | hj) | hj
        · exact Or.inl hj
        · exact Or.inr (by omega)
        · exact Or.inr (by omega)
      · rcases hF with hF | hF
        · exact hF
        · omega
  have hne : ((k : Int) == (ds.length : Int)) = false := by rw [beq_eq_false_iff_ne]; omega
  obtain ⟨PP, HPP⟩ : ∃ PP : World → Prop, Hid (PP = fun w4 => ∃ F', LW w4 B p pd ((s.push (.app nmC Y)).push (.mov nmC nmW)) F' first ds ∧ (∀ j, F' j → F j ∨ w.heap.size ≤ j) ∧ Dk.Fr F w w4) := ⟨_, (rfl : _ = _)⟩
  have HP := HPP.out
  rw [funext_iff] at HP
  simp only [← HP] at HS ⊢
  simp only [nmW, nmC] at HS
  clear h ht hk hl hd hfl hfit hr hf64 hm HP HPP HS0 hsp HY c0
  generalize ds.length = N at *
  go_enter Tryz.func111, Tryz.ntmps111
  go_wp2_with fail
  go_region_held (fun u => u.cell? ⟨p, 0, none⟩ = some (.pointer (some ⟨pd, 0, none⟩)))
    (first | exact c0d | exact d2 | exact d3)
    (first
      | (go_at_call 133; refine Calls.mono HS.out ?_; rintro e w2 ⟨ao2, L2, cap2, rfl, d2, HT⟩)
      | (go_at_call 132; refine Calls.mono HT.out ?_; rintro e w3 ⟨rfl, d3, HU⟩))
  go_wp2_with (go_at_call 134; refine Calls.mono HU.out ?_; rintro e w4 ⟨rfl, HZ⟩)
  go_ret
  exact ⟨rfl, HZ⟩

set_option maxHeartbeats 1000000 in
/-- Until, whichever way the file's front is cut: cutFront's contract handed in. -/
theorem until_with (B p pd : Nat) (s s' : St) (F : Nat → Prop) (first : Int) (ds : List (List UInt8)) (n : Int) (k : Nat) (w : World) (h : LW w B p pd s F first ds) (h1 : 1 ≤ n) (hn : n ≤ 9223372036854775806) (hk : cnt first ds n = k) (h0 : 0 < k) (hkl : k ≤ ds.length) (hl : ds.length ≤ 1000000) (hfl : (fileB first ds).length ≤ 900000) (hfit : first + ds.length ≤ 9223372036854775807)
    (hc : ∀ m, Calls Tryz.prog 111 #[.pointer (some ⟨p, 0, none⟩), .int .i64 (k : Int)] (w.drewN m) fun e w' => e = .returned (.int .i64 0) ∧ Hid (∃ F', LW w' B p pd s' F' first ds ∧ (∀ j, F' j → F j ∨ (w.drewN m).heap.size ≤ j) ∧ Dk.Fr F (w.drewN m) w')) :
    Calls Tryz.prog 87 #[.pointer (some ⟨p, 0, none⟩), .int .i64 n] w fun e w' => e = .returned (.int .i64 0) ∧ Hid (∃ F', LW w' B p pd s' F' (if k = ds.length then 0 else first + k) (ds.drop k) ∧ (∀ j, F' j → F j ∨ w.heap.size ≤ j) ∧ Dk.Fr (fun j => F j ∨ B ≤ j) w w') := by
  have HC : Hid (_) := count_any B p pd s F first ds n w h (by omega) (by omega)
  rw [hk] at HC
  obtain ⟨f', Hf'⟩ : ∃ f', Hid (f' = if k = ds.length then 0 else first + k) := ⟨if k = ds.length then 0 else first + k, (rfl : _ = _)⟩
  rw [← Hf'.out]
  have HX : Hid (∀ m, Calls Tryz.prog 111 #[.pointer (some ⟨p, 0, none⟩), .int .i64 (k : Int)] (w.drewN m) fun e w3 => e = .returned (.int .i64 0) ∧ Hid (Calls Tryz.prog 112 #[.pointer (some ⟨p, 0, none⟩), .int .i64 (k : Int)] w3 fun e w' => e = .returned (.tuple #[]) ∧ Hid (∃ F', LW w' B p pd s' F' f' (ds.drop k) ∧ (∀ j, F' j → F j ∨ w.heap.size ≤ j) ∧ Dk.Fr (fun j => F j ∨ B ≤ j) w w'))) := by
    intro m
    have hbd : Below w.heap.size w (w.drewN m) := ⟨rfl, rfl, rfl, Nat.le_refl _, fun _ _ => rfl⟩
    refine (hc m).mono ?_
    rintro e w3 ⟨rfl, F3, hW3, hF3, hf3⟩
    refine ⟨rfl, ?_⟩
    refine (hW3.dropFront k h0 hkl (by omega) (by omega) hfit).mono ?_
    rintro e w' ⟨rfl, hL, hf⟩
    rw [← Hf'.out] at hL
    refine ⟨rfl, F3, hL, hF3, ((Fr.of_below hbd).trans (hf3.mono (G := fun j => F j ∨ B ≤ j) (fun _ _ h => Or.inl h)) (fun _ _ h => h)).trans hf (fun j hj hF => ?_)⟩
    rcases hF with hF | hF
    · rcases hF3 j hF with hh | hh
      · exact Or.inl hh
      · have : w.heap.size ≤ j := hh
        omega
    · exact Or.inr hF
  obtain ⟨PP, HPP⟩ : ∃ PP : World → Prop, Hid (PP = fun w' => ∃ F', LW w' B p pd s' F' f' (ds.drop k) ∧ (∀ j, F' j → F j ∨ w.heap.size ≤ j) ∧ Dk.Fr (fun j => F j ∨ B ≤ j) w w') := ⟨_, (rfl : _ = _)⟩
  have HP := HPP.out
  rw [funext_iff] at HP
  simp only [← HP] at HX ⊢
  have hne : ((k : Int) == 0) = false := by rw [beq_eq_false_iff_ne]; omega
  clear h hk hc hkl hl hfl hfit HP HPP Hf' h0
  go_enter Tryz.func87, Tryz.ntmps87
  go_wp2_with (first
    | (go_at_call 79; refine Calls.mono HC.out ?_; rintro e w1 ⟨rfl, m, rfl⟩; have HXm : Hid (_) := HX.out m; clear HX)
    | (go_at_call 111; refine Calls.mono HXm.out ?_; rintro e w3 ⟨rfl, HY⟩)
    | (go_at_call 112; refine Calls.mono HY.out ?_; rintro e w4 ⟨rfl, HZ⟩))
  go_ret
  exact ⟨rfl, HZ⟩

theorem until_all (B p pd : Nat) (s : St) (F : Nat → Prop) (first : Int) (ds : List (List UInt8)) (n : Int) (f : Fl) (w : World) (h : LW w B p pd s F first ds) (h1 : 1 ≤ n) (hn : n ≤ 9223372036854775806) (hk : cnt first ds n = ds.length) (h0 : 0 < ds.length) (hl : ds.length ≤ 1000000) (hfl : (fileB first ds).length ≤ 900000) (hfit : first + ds.length ≤ 9223372036854775807)
    (hlook : Dk.look nmW s.now = some f) (hm : s.mass + 1 ≤ 1000000000) :
    Calls Tryz.prog 87 #[.pointer (some ⟨p, 0, none⟩), .int .i64 n] w fun e w' => e = .returned (.int .i64 0) ∧ Hid (∃ F', LW w' B p pd (s.push (.cut nmW 0)) F' 0 [] ∧ (∀ j, F' j → F j ∨ w.heap.size ≤ j) ∧ Dk.Fr (fun j => F j ∨ B ≤ j) w w') := by
  have := until_with B p pd s (s.push (.cut nmW 0)) F first ds n ds.length w h h1 hn hk h0 (Nat.le_refl _) hl hfl hfit (fun m => cutFront_all B p pd s F first ds f _ (h.drew m) hlook hm)
  rw [if_pos rfl, List.drop_length] at this
  exact this
theorem until_some (B p pd : Nat) (s : St) (F : Nat → Prop) (first : Int) (ds : List (List UInt8)) (n : Int) (k : Nat) (w : World) (h : LW w B p pd s F first ds) (ht : Fr.Tab w) (h1 : 1 ≤ n) (hn : n ≤ 9223372036854775806) (hk : cnt first ds n = k) (h0 : 0 < k) (hkl : k < ds.length) (hl : ds.length ≤ 1000000) (hd : ∀ d ∈ ds, d.length ≤ 32768) (hfl : (fileB first ds).length ≤ 900000) (hfit : first + ds.length ≤ 9223372036854775807)
    (hr : (used s.now : Int) + (fileB (first + k) (ds.drop k)).length ≤ s.room) (hf64 : (Dk.look nmC s.now).isSome = true ∨ s.now.length < 64) (hm : s.mass + 1000000 ≤ 1000000000) :
    Calls Tryz.prog 87 #[.pointer (some ⟨p, 0, none⟩), .int .i64 n] w fun e w' => e = .returned (.int .i64 0) ∧ Hid (∃ F', LW w' B p pd ((s.push (.app nmC (fileB (first + k) (ds.drop k)))).push (.mov nmC nmW)) F' (first + k) (ds.drop k) ∧ (∀ j, F' j → F j ∨ w.heap.size ≤ j) ∧ Dk.Fr (fun j => F j ∨ B ≤ j) w w') := by
  have := until_with B p pd s _ F first ds n k w h h1 hn hk h0 (by omega) hl hfl hfit (fun m => cutFront_some B p pd s F first ds k _ (h.drew m) (ht.drew m) hkl hl hd hfl hfit hr hf64 hm)
  rw [if_neg (by omega)] at this
  exact this
end Go.Proofs.YtjndgekpdmlbiaaGreatDoor.Wl
namespace Go.Proofs.YtjndgekpdmlbiaaGreatDoor.Wl
open Go.RowKit Dk

theorem ins_len (f : Fl) : ∀ fs : List Fl, (Dk.ins f fs).length = fs.length + 1
  | [] => rfl
  | x :: r => by
    unfold Dk.ins
    split
    · rfl
    · rw [List.length_cons, ins_len f r, List.length_cons]
theorem del_len (n : ByteArray) (fs : List Fl) : (Dk.del n fs).length ≤ fs.length := List.length_filter_le _ _
theorem del_len_lt {n : ByteArray} {f : Fl} : ∀ {fs : List Fl}, Dk.look n fs = some f → (Dk.del n fs).length + 1 ≤ fs.length
  | [], h => by simp [Dk.look] at h
  | x :: r, h => by
    unfold Dk.del
    by_cases hx : x.name = n
    · rw [List.filter_cons_of_neg (by simpa using hx), List.length_cons]
      have := del_len n r
      unfold Dk.del at this
      omega
    · have hr : Dk.look n r = some f := by
        unfold Dk.look at h ⊢
        rw [List.find?_cons_of_neg (by simpa using hx)] at h
        exact h
      have ih := del_len_lt hr
      rw [List.filter_cons_of_pos (by simpa using hx), List.length_cons, List.length_cons]
      unfold Dk.del at ih
      omega
theorem stray_len (s : St) (n : ByteArray) : (strayStep s n).now.length ≤ s.now.length := by
  unfold strayStep rmStep
  split
  · split
    · rw [St.push_now]
      exact del_len n _
    · exact Nat.le_refl _
  · exact Nat.le_refl _
theorem strays_len : ∀ (ns : List ByteArray) (s : St), (strays s ns).now.length ≤ s.now.length
  | [], s => Nat.le_refl _
  | n :: ns, s => by
    have h1 := strays_len ns (strayStep s n)
    have h2 := stray_len s n
    unfold strays at h1 ⊢
    rw [List.foldl_cons]
    omega
theorem cut_len (n : ByteArray) (k : Nat) (fs : List Fl) : (Dk.ap fs (.cut n k)).length ≤ fs.length := by
  unfold Dk.ap
  cases h : Dk.look n fs with
  | none => simp only [h]; exact Nat.le_refl _
  | some f =>
    have := del_len_lt h
    simp only [h]
    rw [ins_len]
    omega
theorem openS_len (s : St) : (openS s).now.length ≤ s.now.length := by
  have h := strays_len (s.now.map Fl.name) s
  unfold openS
  split
  · rw [St.push_now]
    exact Nat.le_trans (cut_len _ _ _) h
  · exact h
theorem openS_mass (s : St) : (openS s).mass ≤ s.mass + s.now.length + 1 := by
  have h := strays_mass (s.now.map Fl.name) s
  rw [List.length_map] at h
  unfold openS
  split
  · rw [St.push_mass]
    simp only [Ch.mass]
    omega
  · omega
theorem strays_room : ∀ (ns : List ByteArray) (s : St), (strays s ns).room = s.room
  | [], s => rfl
  | n :: ns, s => by
    have h1 := strays_room ns (strayStep s n)
    have h2 : (strayStep s n).room = s.room := by
      unfold strayStep rmStep
      split
      · split <;> rfl
      · rfl
    unfold strays at h1 ⊢
    rw [List.foldl_cons, h1, h2]
theorem openS_room (s : St) : (openS s).room = s.room := by
  unfold openS
  split
  · exact strays_room _ s
  · exact strays_room _ s
end Go.Proofs.YtjndgekpdmlbiaaGreatDoor.Wl

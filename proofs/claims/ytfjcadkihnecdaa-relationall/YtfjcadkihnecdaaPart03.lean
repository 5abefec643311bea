/- Pages in memory; the walks of compareLast, slices.BinarySearchFunc at pages. The walks of find and size; how rising pages part at a key. What a set is in memory, and what keeps it; how it parts at a row. Where a row is in a set; the walks of fits, Has. -/
import Derived.Test.YtfjcadkihnecdaaPart02
import Derived.Deep.RegionHeld3
import Derived.Deep.RegionLaw
import Derived.Deep.RegionWith
import Derived.Deep.CutRange
namespace Go.Proofs.Ytfjcadkihnecdaa
open Go.RowKit

/-- A page: its slice and its keys. -/
structure Pg where
  dv : Value
  ks : List Ky
/-- A slice value that reads as these pages. -/
def Ps (w : World) (v : Value) (zs : List Pg) : Prop :=
  ∃ ao cap, v = .slice ao zs.length cap ∧ zs.length ≤ cap ∧ cap ≤ maxLen ∧ (0 < zs.length → ∃ g off, ao = some ⟨g, off, none⟩ ∧ ∀ j (h : j < zs.length), w.cell? ⟨g, off + j, none⟩ = some zs[j].dv ∧ Ks w zs[j].dv zs[j].ks)
theorem Ps.below {w w' : World} {v : Value} {zs : List Pg} (h : Ps w v zs) (hb : Below w.heap.size w w') : Ps w' v zs := by
  obtain ⟨ao, cap, hv, h1, h2, h4⟩ := h
  refine ⟨ao, cap, hv, h1, h2, fun hp => ?_⟩
  obtain ⟨g, off, ha, hc⟩ := h4 hp
  exact ⟨g, off, ha, fun j hj => ⟨cell_below' (hc j hj).1 hb, (hc j hj).2.below hb⟩⟩
def lastK (z : Pg) : Ky := z.ks.getLastD ⟨0, 0, 0, 0⟩

set_option maxHeartbeats 1600000 in
theorem last_any (v : Value) (ks : List Ky) (k : Ky) (w : World) (hv : Ks w v ks) (hne : ks ≠ []) (hl : ks.length ≤ 1000000000) :
    Calls Try.prog 32 #[v, .agg #[.int .i64 k.a, .int .i64 k.b, .int .i64 k.c, .int .i64 k.d]] w fun e w' => e = .returned (.int .i64 (cmpL (lastK ⟨v, ks⟩).l k.l)) ∧ Below w.heap.size w w' := by
  have HBW := hide (below_box w (.cells k.cs 47))
  have HK := hide (Bx.new w k.cs 47)
  simp only [Ky.cs] at HBW HK
  obtain ⟨ao, cap, rfl, h1, h2, h4⟩ := hv
  have hpos : 0 < ks.length := List.length_pos_iff.2 hne
  obtain ⟨g, off, rfl, hc⟩ := h4 hpos
  obtain ⟨m, hm⟩ : ∃ m, ks.length = m + 1 := ⟨ks.length - 1, by omega⟩
  obtain ⟨k0, k1, k2, k3⟩ := hc m (by omega)
  have hz : lastK ⟨.slice (some ⟨g, off, none⟩) ks.length cap, ks⟩ = ks[m] := by
    simp only [lastK]
    rw [List.getLastD_eq_getLast?, List.getLast?_eq_getElem?, show ks.length - 1 = m by omega, List.getElem?_eq_getElem (by omega)]
    rfl
  rw [hz]
  generalize ks[m] = z at *
  rw [hm]
  have hmI : ((m : Int) + 1) - 1 = (m : Int) := by omega
  have k0 := cell_below' k0 HBW.out
  have k1 := cell_below' k1 HBW.out
  have k2 := cell_below' k2 HBW.out
  have k3 := cell_below' k3 HBW.out
  clear hc h4 hz hne h1 h2 hpos
  rw [hm] at hl
  clear hm
  go_enter Try.func32, Try.ntmps32
  go_wp2_with fail
  generalize w.alloc (.cells #[.int .i64 k.a, .int .i64 k.b, .int .i64 k.c, .int .i64 k.d] 47) = W at *
  have cE : ∀ d os, Calls Try.prog 34 #[.agg #[.int .i64 z.a, .int .i64 z.b, .int .i64 z.c, .int .i64 z.d], .agg #[.int .i64 k.a, .int .i64 k.b, .int .i64 k.c, .int .i64 k.d]] (Sort.grow (redrawn W d) os) fun e w'' => e = .returned (.int .i64 (cmpL z.l k.l)) ∧ ∃ p : Regrown, w'' = Sort.grow (redrawn W p.d) p.os := fun d os => Calls.regrown_of (cmp_any z k _)
  have x0 := HK.out.c 0
  have x1 := HK.out.c 1
  have x2 := HK.out.c 2
  have x3 := HK.out.c 3
  simp at x0 x1 x2 x3
  have x0 := cell_regrown x0
  have x1 := cell_regrown x1
  have x2 := cell_regrown x2
  have x3 := cell_regrown x3
  have k0 := cell_regrown k0
  have k1 := cell_regrown k1
  have k2 := cell_regrown k2
  have k3 := cell_regrown k3
  refine wp_region_quiet_below (by kernel_rfl) (by kernel_rfl) ?_
  repeat (go_big_quiet_step (first | exact cE _ _))
  refine wpQuiet_nil ?_
  intro wz hw'
  obtain ⟨⟨dq, osq⟩, hw''⟩ := hw'
  have hbq := below_regrown W dq osq
  rw [← hw''] at hbq
  have HBz := hide (HBW.out.trans (hbq.mono HBW.out.size))
  clear hw'' hbq cE x0 x1 x2 x3 k0 k1 k2 k3
  go_wp2_with fail
  go_ret
  exact ⟨rfl, HBz.out⟩

set_option maxHeartbeats 1600000 in
theorem bsP_any (v : Value) (A B : List Pg) (k : Ky) (w : World) (hv : Ps w v (A ++ B)) (hne : ∀ z ∈ A ++ B, z.ks ≠ []) (hsz : ∀ z ∈ A ++ B, z.ks.length ≤ 1000000000) (hl : (A ++ B).length ≤ 1000000000) (hA : ∀ x ∈ A, cmpL (lastK x).l k.l < 0) (hB : ∀ x ∈ B, ¬ cmpL (lastK x).l k.l < 0) :
    Calls Try.prog 31 #[v, .agg #[.int .i64 k.a, .int .i64 k.b, .int .i64 k.c, .int .i64 k.d], .func (.func 32) #[] #[]] w fun e w' => ∃ b, e = .returned (.tuple #[.int .i64 (A.length : Int), .bool b]) ∧ Below w.heap.size w w' := by
  have HBW := hide (below_box w (.cells k.cs 47))
  have HK := hide (Bx.new w k.cs 47)
  simp only [Ky.cs] at HBW HK
  obtain ⟨ao, cap, rfl, h1, h2, h4⟩ := hv
  obtain ⟨N, hN⟩ : ∃ N, (A ++ B).length = N := ⟨_, rfl⟩
  have HC : Hid (0 < N → ∃ g off, ao = some ⟨g, off, none⟩ ∧ ∀ j (h : j < (A ++ B).length), w.cell? ⟨g, off + j, none⟩ = some (A ++ B)[j].dv ∧ Ks w (A ++ B)[j].dv (A ++ B)[j].ks) := fun hp => h4 (by omega)
  obtain ⟨q, hq⟩ : ∃ q, A.length = q := ⟨_, rfl⟩
  have hqN : q ≤ N := by rw [← hN, ← hq]; simp
  have HL : Hid (∀ i (h : i < (A ++ B).length), i < q → cmpL (lastK (A ++ B)[i]).l k.l < 0) := fun i h hi => by
    rw [List.getElem_append_left (by omega)]
    exact hA _ (List.getElem_mem _)
  have HH : Hid (∀ i (h : i < (A ++ B).length), q ≤ i → ¬ cmpL (lastK (A ++ B)[i]).l k.l < 0) := fun i h hi => by
    rw [List.getElem_append_right (by omega)]
    exact hB _ (List.getElem_mem _)
  have HNE : Hid (∀ i (h : i < (A ++ B).length), (A ++ B)[i].ks ≠ [] ∧ (A ++ B)[i].ks.length ≤ 1000000000) := fun i h => ⟨hne _ (List.getElem_mem h), hsz _ (List.getElem_mem h)⟩
  have HNN := hide hN
  rw [hN, hq]
  rw [hN] at hl
  clear h4 h1 h2 hA hB hN hq hne hsz
  generalize A ++ B = ks at *
  clear A B
  go_enter Try.func31, Try.ntmps31
  go_wp2_with fail
  generalize w.alloc (.cells #[.int .i64 k.a, .int .i64 k.b, .int .i64 k.c, .int .i64 k.d] 47) = W at *
  have HCW : Hid (0 < N → ∃ g off, ao = some ⟨g, off, none⟩ ∧ ∀ j (h : j < ks.length), W.cell? ⟨g, off + j, none⟩ = some ks[j].dv ∧ Ks W ks[j].dv ks[j].ks) := fun hp => by
    obtain ⟨g, off, e, h⟩ := HC.out hp
    exact ⟨g, off, e, fun j hj => ⟨cell_below' (h j hj).1 HBW.out, (h j hj).2.below HBW.out⟩⟩
  clear HC
  go_loopw [9, 10] (fun x y wr => ∃ i j : Nat, x = .int .i64 i ∧ y = .int .i64 j ∧ i ≤ q ∧ q ≤ j ∧ j ≤ N ∧ Hid (Below W.heap.size W wr)) (fun x y _ => (intOf y).toNat - (intOf x).toNat)
  case atStart => exact ⟨0, N, rfl, rfl, Nat.zero_le _, hqN, Nat.le_refl _, Below.refl _ _⟩
  case round =>
    obtain ⟨i, j, rfl, rfl, hi, hj, hjN, HB⟩ := hrel
    have hX := Bx.below HK.out HB.out
    have x0 := hX.c 0
    have x1 := hX.c 1
    have x2 := hX.c 2
    have x3 := hX.c 3
    simp at x0 x1 x2 x3
    clear hX
    by_cases hlt : i < j
    · have hltI : (i : Int) < (j : Int) := by omega
      obtain ⟨m, hm⟩ : ∃ m : Nat, m = (i + j) / 2 := ⟨_, rfl⟩
      have hm1 : i ≤ m := by omega
      have hm2 : m < j := by omega
      have HMe := hide hm
      clear hm
      obtain ⟨g, off, rfl, hc⟩ := HCW.out (by omega)
      have hmk : m < ks.length := by rw [HNN.out]; omega
      obtain ⟨k0, kk⟩ := hc m hmk
      have k0 := cell_below' k0 HB.out
      have HKK := hide (kk.below HB.out)
      have HZ := hide (HNE.out m hmk)
      clear kk
      have HLm := hide (HL.out m hmk)
      have HHm := hide (HH.out m hmk)
      have hmI : (m : Int) < (N : Int) := by omega
      generalize ks[m] = z at *
      obtain ⟨zv, zk⟩ := z
      simp only at k0 HZ HKK
      obtain ⟨ao2, cap2, rfl, _⟩ := id HKK.out
      have cE : ∀ d os, Calls Try.prog 32 #[.slice ao2 zk.length cap2, .agg #[.int .i64 k.a, .int .i64 k.b, .int .i64 k.c, .int .i64 k.d]] (Sort.grow (redrawn wr d) os) fun e w'' => e = .returned (.int .i64 (cmpL (lastK ⟨.slice ao2 zk.length cap2, zk⟩).l k.l)) ∧ ∃ p : Regrown, w'' = Sort.grow (redrawn wr p.d) p.os := fun d os => Calls.regrown_of (last_any _ zk k _ (HKK.out.below (below_regrown wr d os)) HZ.out.1 HZ.out.2)
      obtain ⟨cv, hcv⟩ : ∃ cv, cmpL (lastK ⟨.slice ao2 zk.length cap2, zk⟩).l k.l = cv := ⟨_, rfl⟩
      rw [hcv] at cE HLm HHm
      clear hc hcv
      by_cases hneg : cv < 0
      · have hmq : m < q := by
          by_cases h : m < q
          · exact h
          · exact absurd hneg (by have := HHm.out (by omega); omega)
        have g1 : decide (cv < 0) = true := by simpa using hneg
        go_wp2_with fail
        rw [show ((i : Int) + (j : Int)) / 2 = (m : Int) by have := HMe.out; omega]
        have x0 := cell_regrown x0
        have x1 := cell_regrown x1
        have x2 := cell_regrown x2
        have x3 := cell_regrown x3
        have k0 := cell_regrown k0
        refine wp_region_quiet_below (by kernel_rfl) (by kernel_rfl) ?_
        repeat (go_big_quiet_step (first | exact cE _ _))
        refine wpQuiet_nil ?_
        intro wz hw'
        obtain ⟨⟨dq, osq⟩, hw''⟩ := hw'
        have hbq := below_regrown wr dq osq
        rw [← hw''] at hbq
        have HBz := hide (HB.out.trans (hbq.mono HB.out.size))
        clear hw'' hbq cE x0 x1 x2 x3 k0
        go_wp2_with fail
        go_roundw
        case rel => exact ⟨m + 1, j, by go_num, rfl, by omega, hj, hjN, HBz⟩
        case measure => simp [intOf]; omega
      · have hmq : q ≤ m := by
          by_cases h : q ≤ m
          · exact h
          · exact absurd (HLm.out (by omega)) hneg
        have g1 : decide (cv < 0) = false := by simpa using hneg
        go_wp2_with fail
        rw [show ((i : Int) + (j : Int)) / 2 = (m : Int) by have := HMe.out; omega]
        have x0 := cell_regrown x0
        have x1 := cell_regrown x1
        have x2 := cell_regrown x2
        have x3 := cell_regrown x3
        have k0 := cell_regrown k0
        refine wp_region_quiet_below (by kernel_rfl) (by kernel_rfl) ?_
        repeat (go_big_quiet_step (first | exact cE _ _))
        refine wpQuiet_nil ?_
        intro wz hw'
        obtain ⟨⟨dq, osq⟩, hw''⟩ := hw'
        have hbq := below_regrown wr dq osq
        rw [← hw''] at hbq
        have HBz := hide (HB.out.trans (hbq.mono HB.out.size))
        clear hw'' hbq cE x0 x1 x2 x3 k0
        go_wp2_with fail
        go_roundw
        case rel => exact ⟨i, m, rfl, rfl, hi, hmq, by omega, HBz⟩
        case measure => simp [intOf]; omega
    · have hiq : i = q := by omega
      subst hiq
      have hltI : ¬ (i : Int) < (j : Int) := by omega
      by_cases hin : i < N
      · have hinI : (i : Int) < (N : Int) := by omega
        obtain ⟨g, off, rfl, hc⟩ := HCW.out (by omega)
        have hmk : i < ks.length := by rw [HNN.out]; omega
        obtain ⟨k0, kk⟩ := hc i hmk
        have k0 := cell_below' k0 HB.out
        have HKK := hide (kk.below HB.out)
        have HZ := hide (HNE.out i hmk)
        clear kk
        generalize ks[i] = z at *
        obtain ⟨zv, zk⟩ := z
        simp only at k0 HZ HKK
        obtain ⟨ao2, cap2, rfl, _⟩ := id HKK.out
        have cE : ∀ d os, Calls Try.prog 32 #[.slice ao2 zk.length cap2, .agg #[.int .i64 k.a, .int .i64 k.b, .int .i64 k.c, .int .i64 k.d]] (Sort.grow (redrawn wr d) os) fun e w'' => e = .returned (.int .i64 (cmpL (lastK ⟨.slice ao2 zk.length cap2, zk⟩).l k.l)) ∧ ∃ p : Regrown, w'' = Sort.grow (redrawn wr p.d) p.os := fun d os => Calls.regrown_of (last_any _ zk k _ (HKK.out.below (below_regrown wr d os)) HZ.out.1 HZ.out.2)
        obtain ⟨cv, hcv⟩ : ∃ cv, cmpL (lastK ⟨.slice ao2 zk.length cap2, zk⟩).l k.l = cv := ⟨_, rfl⟩
        rw [hcv] at cE
        clear hc hcv
        go_wp2_with fail
        have x0 := cell_regrown x0
        have x1 := cell_regrown x1
        have x2 := cell_regrown x2
        have x3 := cell_regrown x3
        have k0 := cell_regrown k0
        have g1 : decide ((i : Int) < (N : Int)) = true := by simpa using hin
        refine wp_region_quiet_below (by kernel_rfl) (by kernel_rfl) ?_
        repeat (go_big_quiet_step (first | exact cE _ _))
        refine wpQuiet_nil ?_
        intro wz hw'
        obtain ⟨⟨dq, osq⟩, hw''⟩ := hw'
        have hbq := below_regrown wr dq osq
        rw [← hw''] at hbq
        have HBz := hide (HBW.out.trans ((HB.out.trans (hbq.mono HB.out.size)).mono HBW.out.size))
        clear hw'' hbq cE x0 x1 x2 x3 k0
        go_wp2_with fail
        go_ret2
        exact ⟨_, rfl, HBz.out⟩
      · have hinI : ¬ (i : Int) < (N : Int) := by omega
        have g1 : decide ((i : Int) < (N : Int)) = false := by simpa using hin
        clear x0 x1 x2 x3
        go_wp2_with fail
        refine wp_region_quiet_below (by kernel_rfl) (by kernel_rfl) ?_
        repeat (go_big_quiet_step (fail))
        refine wpQuiet_nil ?_
        intro wz hw'
        obtain ⟨⟨dq, osq⟩, hw''⟩ := hw'
        have hbq := below_regrown wr dq osq
        rw [← hw''] at hbq
        have HBz := hide (HBW.out.trans ((HB.out.trans (hbq.mono HB.out.size)).mono HBW.out.size))
        clear hw'' hbq
        go_wp2_with fail
        go_ret2
        exact ⟨_, rfl, HBz.out⟩
end Go.Proofs.Ytfjcadkihnecdaa
namespace Go.Proofs.Ytfjcadkihnecdaa
open Go.RowKit

/-- A result that lies in a cell, another beside it. -/
theorem ret_cell {fn : Func} {p u : Tmp} {ty : TypeId} (h : fn.results = #[.cell p ty, .tmp u]) (tmps : Array Value) (w : World) (g : Nat) (t : TypeId) (cs : Array Value) {d}
    (hp : tmps.getD p undef = .pointer (some ⟨g, 0, none⟩)) (hg : Bx w g t cs)
    (hu : Try.prog.underlying ty = some (.struct d)) (hi : (Try.prog.info? ty).map (·.size) = some cs.size) :
    (results fn tmps).run Try.prog w = .ok (.tuple #[.agg cs, tmps.getD u undef]) w := by
  rw [results_cell_tmp h, hp]
  have hl := run_loadVar_row (P := Try.prog) w g t ty cs (0, 0) _ hg hu rfl hi
  have ha : (asAddr (.pointer (some ⟨g, 0, none⟩))).run Try.prog w = .ok ⟨g, 0, none⟩ w := rfl
  rw [ha]
  simp only [Result.andThen, hl]
theorem inf50 : (Try.prog.info? 50).map (·.size) = some 2 := by kernel_rfl

/-- A place and whether it is the key's: the page, where in it. -/
structure At (A : List Pg) (B : List Pg) (k : Ky) (at' : Nat) (f : Bool) : Prop where
  pre : ∀ z ∈ A, cmpL (lastK z).l k.l < 0
  post : ∀ z ∈ B, ¬ cmpL (lastK z).l k.l < 0
  none : B = [] → at' = 0 ∧ f = false
  some : ∀ z R, B = z :: R → ∃ C D, z.ks = C ++ D ∧ at' = C.length ∧ f = fnd D k ∧ (∀ x ∈ C, cmpL x.l k.l < 0) ∧ (∀ x ∈ D, ¬ cmpL x.l k.l < 0)

set_option maxHeartbeats 1600000 in
theorem find_any (v : Value) (A B : List Pg) (k : Ky) (at' : Nat) (f : Bool) (w : World) (hv : Ps w v (A ++ B)) (hne : ∀ z ∈ A ++ B, z.ks ≠ []) (hsz : ∀ z ∈ A ++ B, z.ks.length ≤ 1000000000) (hl : (A ++ B).length ≤ 1000000000) (hat : At A B k at' f) :
    Calls Try.prog 20 #[v, .agg #[.int .i64 k.a, .int .i64 k.b, .int .i64 k.c, .int .i64 k.d]] w fun e w' => e = .returned (.tuple #[.agg #[.int .i64 (A.length : Int), .int .i64 (at' : Int)], .bool f]) ∧ Below w.heap.size w w' := by
  have HBW := hide (below_box2 w (.cells k.cs 47) (.cells #[.int .i64 0, .int .i64 0] 50))
  have HK := hide ((Bx.new w k.cs 47).below (below_box _ (.cells #[.int .i64 0, .int .i64 0] 50)))
  have HR := hide (Bx.new (w.alloc (.cells k.cs 47)) #[.int .i64 0, .int .i64 0] 50)
  rw [World.size_alloc] at HR
  have HV := hide hv
  have HC : Hid (∀ W, Ps W v (A ++ B) → Calls Try.prog 31 #[v, .agg #[.int .i64 k.a, .int .i64 k.b, .int .i64 k.c, .int .i64 k.d], .func (.func 32) #[] #[]] W fun e w' => ∃ b, e = .returned (.tuple #[.int .i64 (A.length : Int), .bool b]) ∧ Below W.heap.size W w') := fun W hW =>
    bsP_any v A B k W hW hne hsz hl hat.pre hat.post
  simp only [Ky.cs] at HBW HK HR
  cases B with
  | nil =>
    obtain ⟨h0, hf⟩ := hat.none rfl
    subst h0 hf
    rw [List.append_nil] at hv
    obtain ⟨ao, cap, rfl, h1, h2, h4⟩ := hv
    clear h4 h1 h2 hat hne hsz
    rw [List.append_nil] at hl HC HV
    generalize A.length = N at *
    go_enter Try.func20, Try.ntmps20
    go_wp2_with fail
    generalize (w.alloc (.cells #[.int .i64 k.a, .int .i64 k.b, .int .i64 k.c, .int .i64 k.d] 47)).alloc (.cells #[.int .i64 0, .int .i64 0] 50) = W at *
    have HCW := hide (HC.out W (HV.out.below HBW.out))
    refine Calls.mono HCW.out ?_
    rintro e w2 ⟨b, rfl, hb2⟩
    have hr2 := Bx.below HR.out hb2
    have d0 := hr2.c 0
    have d1 := hr2.c 1
    have f0 := hr2.f 0
    have f1 := hr2.f 1
    have HR2 : Hid (Bx ((w2.setCell ⟨w.heap.size + 1, 0, Option.none⟩ (.int .i64 (N : Int))).setCell ⟨w.heap.size + 1, 1, Option.none⟩ (.int .i64 0)) (w.heap.size + 1) 50 #[.int .i64 (N : Int), .int .i64 0]) := (hr2.set 0 _).set 1 _
    have hle : w.heap.size ≤ w.heap.size + 1 := by omega
    have HW2 := hide (((HBW.out.trans (hb2.mono HBW.out.size)).setCell (p := ⟨w.heap.size + 1, 0, Option.none⟩) hle (.int .i64 (N : Int))).setCell (p := ⟨w.heap.size + 1, 1, Option.none⟩) hle (.int .i64 0))
    simp at d0 d1
    clear HCW HC HV HK HR HBW hb2 hr2
    go_wp2_with fail
    refine bodyPost_ret (ret_cell rfl _ _ (w.heap.size + 1) 50 _ rfl HR2.out Try.underlying50 inf50) rfl ?_
    exact ⟨rfl, HW2.out⟩
  | cons z R =>
    obtain ⟨C, D, hks, rfl, rfl, hC, hD⟩ := hat.some z R rfl
    have HZ : Hid (∀ W, Below w.heap.size w W → ∃ ao cap, v = .slice ao (A.length + (R.length + 1)) cap ∧ ∃ g off, ao = Option.some ⟨g, off, Option.none⟩ ∧ W.cell? ⟨g, off + A.length, Option.none⟩ = Option.some z.dv ∧ Ks W z.dv (C ++ D)) := fun W hW => by
      obtain ⟨ao, cap, e, h1, h2, h4⟩ := hv.below hW
      have hlen : (A ++ z :: R).length = A.length + (R.length + 1) := by simp
      obtain ⟨g, off, e2, hc⟩ := h4 (by omega)
      have hj := hc A.length (by omega)
      rw [List.getElem_append_right (Nat.le_refl _)] at hj
      simp only [Nat.sub_self, List.getElem_cons_zero] at hj
      rw [hks] at hj
      exact ⟨ao, cap, by rw [e, hlen], g, off, e2, hj.1, hj.2⟩
    have HCK : Hid (∀ W, Ks W z.dv (C ++ D) → Calls Try.prog 33 #[z.dv, .agg #[.int .i64 k.a, .int .i64 k.b, .int .i64 k.c, .int .i64 k.d], .func (.func 34) #[] #[]] W fun e w' => e = .returned (.tuple #[.int .i64 (C.length : Int), .bool (fnd D k)]) ∧ Below W.heap.size W w') := fun W hW =>
      bsK_any z.dv C D k W hW (by rw [← hks]; exact hsz z (by simp)) hC hD
    have hl2 : A.length + (R.length + 1) ≤ 1000000000 := by simpa using hl
    clear hv hne hsz hl hat hks hC hD
    obtain ⟨zv, zk⟩ := z
    simp only at HZ HCK
    obtain ⟨ao, cap, rfl, g, off, rfl, _, kz⟩ := HZ.out w (Below.refl _ _)
    obtain ⟨ao2, cap2, rfl, -⟩ := kz
    generalize A.length = n at *
    generalize R.length = r at *
    generalize (C ++ D).length = cd at *
    generalize C.length = c at *
    generalize fnd D k = fb at *
    have hneI : ¬ ((n : Int) = ((n + (r + 1) : Nat) : Int)) := by omega
    go_enter Try.func20, Try.ntmps20
    go_wp2_with fail
    generalize (w.alloc (.cells #[.int .i64 k.a, .int .i64 k.b, .int .i64 k.c, .int .i64 k.d] 47)).alloc (.cells #[.int .i64 0, .int .i64 0] 50) = W at *
    have HCW := hide (HC.out W (HV.out.below HBW.out))
    refine Calls.mono HCW.out ?_
    rintro e w2 ⟨b, rfl, hb2⟩
    have HB2 := hide hb2
    have hbw2 := HBW.out.trans (hb2.mono HBW.out.size)
    obtain ⟨ao', cap', e1, g', off', e2, cz, kz⟩ := HZ.out w2 hbw2
    simp only [Value.slice.injEq, true_and] at e1
    obtain ⟨rfl, rfl⟩ := e1
    simp only [Option.some.injEq, Addr.mk.injEq, and_true] at e2
    obtain ⟨rfl, rfl⟩ := e2
    have hX := Bx.below HK.out hb2
    have x0 := hX.c 0
    have x1 := hX.c 1
    have x2 := hX.c 2
    have x3 := hX.c 3
    simp at x0 x1 x2 x3
    have HKZ := hide kz
    have HBW2 := hide hbw2
    clear HCW HC HV hb2 hbw2 kz hX HZ
    go_wp2_with fail
    have cE : ∀ d os, Calls Try.prog 33 #[.slice ao2 cd cap2, .agg #[.int .i64 k.a, .int .i64 k.b, .int .i64 k.c, .int .i64 k.d], .func (.func 34) #[] #[]] (Sort.grow (redrawn w2 d) os) fun e w'' => e = .returned (.tuple #[.int .i64 (c : Int), .bool fb]) ∧ ∃ p : Regrown, w'' = Sort.grow (redrawn w2 p.d) p.os := fun d os => Calls.regrown_of (HCK.out _ (HKZ.out.below (below_regrown w2 d os)))
    have x0 := cell_regrown x0
    have x1 := cell_regrown x1
    have x2 := cell_regrown x2
    have x3 := cell_regrown x3
    have cz := cell_regrown cz
    refine wp_region_quiet_below (by kernel_rfl) (by kernel_rfl) ?_
    repeat (go_big_quiet_step (first | exact cE _ _))
    refine wpQuiet_nil ?_
    intro wz hw'
    obtain ⟨⟨dq, osq⟩, hw''⟩ := hw'
    have hbq := below_regrown w2 dq osq
    rw [← hw''] at hbq
    have HBz := hide (HBW2.out.trans (hbq.mono HBW2.out.size))
    have hr2 := (Bx.below HR.out HB2.out).below hbq
    have d0 := hr2.c 0
    have d1 := hr2.c 1
    have f0 := hr2.f 0
    have f1 := hr2.f 1
    have HR2 : Hid (Bx ((wz.setCell ⟨w.heap.size + 1, 0, Option.none⟩ (.int .i64 (n : Int))).setCell ⟨w.heap.size + 1, 1, Option.none⟩ (.int .i64 (c : Int))) (w.heap.size + 1) 50 #[.int .i64 (n : Int), .int .i64 (c : Int)]) := (hr2.set 0 _).set 1 _
    have hle : w.heap.size ≤ w.heap.size + 1 := by omega
    have HW2 := hide ((HBz.out.setCell (p := ⟨w.heap.size + 1, 0, Option.none⟩) hle (.int .i64 (n : Int))).setCell (p := ⟨w.heap.size + 1, 1, Option.none⟩) hle (.int .i64 (c : Int)))
    simp at d0 d1
    clear hw'' hbq cE x0 x1 x2 x3 cz hr2
    go_wp2_with fail
    refine bodyPost_ret (ret_cell rfl _ _ (w.heap.size + 1) 50 _ rfl HR2.out Try.underlying50 inf50) rfl ?_
    exact ⟨rfl, HW2.out⟩
end Go.Proofs.Ytfjcadkihnecdaa
namespace Go.Proofs.Ytfjcadkihnecdaa
open Go.RowKit

def Apart (a b : Pg) : Prop := ∀ k, a.dv.ownBlock = some k → b.dv.ownBlock ≠ some k
theorem Apart.symm {a b : Pg} (h : Apart a b) : Apart b a := fun k hb ha => h k ha hb
def dvs (zs : List Pg) : List Value := zs.map Pg.dv
theorem dvs_len (zs : List Pg) : (dvs zs).length = zs.length := by simp [dvs]

/-- Pages in memory: their row and their keys' rows, no two in one block. -/
structure Pgs (w : World) (v : Value) (zs : List Pg) : Prop where
  row : w.ownsRow 0 65 1 v zs.length (dvs zs)
  data : ∀ z ∈ zs, w.ownsRow 0 47 4 z.dv z.ks.length (cellsK z.ks)
  apart : zs.Pairwise Apart
/-- Their blocks. -/
def foot (v : Value) (zs : List Pg) (k : Nat) : Prop := v.ownBlock = some k ∨ ∃ z ∈ zs, z.dv.ownBlock = some k

theorem Pgs.kept {w w' : World} {v : Value} {zs : List Pg} {G : Nat → Prop} (h : Pgs w v zs) (hf : Fr G w w') (hd : ∀ k, foot v zs k → ¬ G k) : Pgs w' v zs :=
  ⟨own_kept h.row hf fun k hk => hd k (.inl hk), fun z hz => own_kept (h.data z hz) hf fun k hk => hd k (.inr ⟨z, hz, hk⟩), h.apart⟩
theorem Pgs.below {w w' : World} {v : Value} {zs : List Pg} (h : Pgs w v zs) (hb : Below w.heap.size w w') : Pgs w' v zs := h.kept (G := fun _ => False) (Fr.of_below hb) fun _ _ => id
theorem Pgs.nil (w : World) : Pgs w (.slice none 0 0) [] := ⟨World.ownsRow_nil _ _ _ _, by simp, List.Pairwise.nil⟩
theorem own_at {w : World} {base e size n : Nat} {v : Value} {xs : List Value} (h : w.ownsRow base e size v n xs) {k : Nat} (hk : v.ownBlock = some k) : ∃ cs, Bx w k e cs := by
  rcases h.2 with ⟨rfl, _⟩ | ⟨g, cap, cur, rfl, _, hg, _⟩
  · simp [Value.ownBlock] at hk
  · simp [Value.ownBlock] at hk
    subst hk
    exact ⟨cur, hg⟩
theorem Pgs.typ {w : World} {v : Value} {zs : List Pg} (h : Pgs w v zs) {k : Nat} (hk : foot v zs k) : ∃ t cs, Bx w k t cs ∧ (t = 65 ∨ t = 47) := by
  rcases hk with hk | ⟨z, hz, hk⟩
  · obtain ⟨cs, hc⟩ := own_at h.row hk
    exact ⟨65, cs, hc, .inl rfl⟩
  · obtain ⟨cs, hc⟩ := own_at (h.data z hz) hk
    exact ⟨47, cs, hc, .inr rfl⟩
theorem Pgs.lt {w : World} {v : Value} {zs : List Pg} (h : Pgs w v zs) {k : Nat} (hk : foot v zs k) : k < w.heap.size := by
  obtain ⟨_, _, hb, _⟩ := h.typ hk
  exact hb.lt
theorem Pgs.shape {w : World} {v : Value} {zs : List Pg} (h : Pgs w v zs) : (v = .slice none 0 0 ∧ zs.length = 0) ∨ ∃ g cap, v = .slice (some ⟨g, 0, none⟩) zs.length cap ∧ zs.length ≤ cap ∧ cap ≤ maxLen ∧ g < w.heap.size := own_shape h.row
theorem Pgs.ps {w : World} {v : Value} {zs : List Pg} (h : Pgs w v zs) : Ps w v zs := by
  rcases h.shape with ⟨rfl, h0⟩ | ⟨g, cap, rfl, h1, h2, _⟩
  · have : zs = [] := List.eq_nil_of_length_eq_zero h0
    subst this
    exact ⟨none, 0, rfl, Nat.le_refl _, by simp [maxLen], fun h => by simp at h⟩
  · refine ⟨_, cap, rfl, h1, h2, fun _ => ⟨g, 0, rfl, fun j hj => ⟨?_, Ks.of_own (h.data _ (List.getElem_mem hj))⟩⟩⟩
    rw [Nat.zero_add, h.row.cellAt j (by omega)]
    simp [dvs, hj]
theorem own_type_ne {w : World} {base e size n : Nat} {v : Value} {xs : List Value} (h : w.ownsRow base e size v n xs) {k t : Nat} {cs : Array Value} (hb : Bx w k t cs) (ht : e ≠ t) : v.ownBlock ≠ some k := by
  intro hk
  obtain ⟨cs', hc⟩ := own_at h hk
  unfold Bx at hc hb
  rw [hc] at hb
  simp at hb
  exact ht hb.2
theorem grown_keep {w w2 : World} {base e size n : Nat} {v : Value} {xs : List Value} {row : Option Nat} (h : w.ownsRow base e size v n xs) (hg : w.grownBy w2 row) (hr : ∀ k, row = some k → v.ownBlock ≠ some k) : w2.ownsRow base e size v n xs :=
  own_kept (F := fun k => row = some k) h (Fr.of_grown hg fun _ e => e) fun k hk e => hr k e hk

/-- The keys of one page have changed: its new slice is stored. -/
theorem Pgs.put {w w2 : World} {g N cap : Nat} {zl : List Pg} {z : Pg} {zr : List Pg} (h : Pgs w (.slice (some ⟨g, 0, none⟩) N cap) (zl ++ z :: zr)) (d : Value) (ks : List Ky)
    (hd : w2.ownsRow 0 47 4 d ks.length (cellsK ks)) (hg : w.grownBy w2 z.dv.ownBlock) (hb : d.ownBlock = z.dv.ownBlock ∨ (∃ k, d.ownBlock = some k ∧ w.heap.size ≤ k)) :
    Pgs (w2.setCell ⟨g, zl.length, none⟩ d) (.slice (some ⟨g, 0, none⟩) N cap) (zl ++ ⟨d, ks⟩ :: zr) ∧ Fr (foot (.slice (some ⟨g, 0, none⟩) N cap) (zl ++ z :: zr)) w (w2.setCell ⟨g, zl.length, none⟩ d) ∧ w2.cell? ⟨g, zl.length, none⟩ = some z.dv ∧ w2.frozen? ⟨g, zl.length, none⟩ = false := by
  have hz : z ∈ zl ++ z :: zr := by simp
  have hgz : z.dv.ownBlock ≠ some g := own_ne h.row (h.data z hz) (by decide) rfl
  have hN : N = (zl ++ z :: zr).length := by
    rcases h.shape with ⟨e, _⟩ | ⟨_, _, e, _⟩
    · simp at e
    · simp only [Value.slice.injEq] at e; exact e.2.1
  subst hN
  have hrow2 : w2.ownsRow 0 65 1 (.slice (some ⟨g, 0, none⟩) (zl ++ z :: zr).length cap) (zl ++ z :: zr).length (dvs (zl ++ z :: zr)) := grown_keep h.row hg (fun k e e2 => hgz (by rw [e]; simpa [Value.ownBlock] using e2.symm))
  have hst := hrow2.stored zl.length d
  have hgd : d.ownBlock ≠ some g := own_ne hrow2 hd (by decide) rfl
  have hfr : Fr (foot (.slice (some ⟨g, 0, none⟩) (zl ++ z :: zr).length cap) (zl ++ z :: zr)) w (w2.setCell ⟨g, zl.length, none⟩ d) :=
    Fr.setCell (Fr.of_grown hg (fun k hk => .inr ⟨z, hz, hk⟩)) (fun _ => .inl rfl) d
  have hapart := List.pairwise_append.1 h.apart
  have hap2 := List.pairwise_cons.1 hapart.2.1
  have hxz : ∀ x : Pg, x ∈ zl ∨ x ∈ zr → Apart x z := fun x hx => by
    rcases hx with hx | hx
    · exact hapart.2.2 x hx z (by simp)
    · exact (hap2.1 x hx).symm
  have hxm : ∀ x : Pg, x ∈ zl ∨ x ∈ zr → x ∈ zl ++ z :: zr := fun x hx => by
    rcases hx with hx | hx <;> simp [hx]
  have hAz : ∀ x : Pg, x ∈ zl ∨ x ∈ zr → Apart x ⟨d, ks⟩ := fun x hx k hk hk' => by
    rcases hb with hb | ⟨k2, hk2, hge⟩
    · exact hxz x hx k hk (by rw [← hb]; exact hk')
    · simp only at hk'
      rw [hk'] at hk2
      cases hk2
      have := h.lt (.inr ⟨x, hxm x hx, hk⟩)
      omega
  have hdata : ∀ x : Pg, x ∈ zl ∨ x ∈ zr → (w2.setCell ⟨g, zl.length, none⟩ d).ownsRow 0 47 4 x.dv x.ks.length (cellsK x.ks) := fun x hx => by
    have h2 := grown_keep (h.data x (hxm x hx)) hg (fun k e e2 => hxz x hx k e2 e)
    exact grown_keep h2 hst.2 (fun k e e2 => own_ne h.row (h.data x (hxm x hx)) (by decide) rfl (by rw [e2, ← e]))
  refine ⟨⟨?_, ?_, ?_⟩, hfr, ?_, hrow2.frozenAt _⟩
  · have e := hst.1
    have e2 : (dvs (zl ++ z :: zr)).set zl.length d = dvs (zl ++ ⟨d, ks⟩ :: zr) := by
      simp only [dvs, List.map_append, List.map_cons]
      rw [List.set_append_right _ _ (by simp)]
      simp
    rw [e2] at e
    have hl : (zl ++ z :: zr).length = (zl ++ (⟨d, ks⟩ : Pg) :: zr).length := by simp
    rw [← hl]
    exact e
  · intro x hx
    rcases List.mem_append.1 hx with hx | hx
    · exact hdata x (Or.inl hx)
    · rcases List.mem_cons.1 hx with rfl | hx
      · exact grown_keep hd hst.2 (fun k e e2 => hgd (by rw [e2, ← e]))
      · exact hdata x (Or.inr hx)
  · refine List.pairwise_append.2 ⟨hapart.1, List.pairwise_cons.2 ⟨fun x hx => (hAz x (Or.inr hx)).symm, hap2.2⟩, fun x hx y hy => ?_⟩
    rcases List.mem_cons.1 hy with rfl | hy
    · exact hAz x (Or.inl hx)
    · exact hapart.2.2 x hx y (by simp [hy])
  · rw [hrow2.cellAt zl.length (by simp)]
    simp [dvs]
/-- A page has gone. -/
theorem Pgs.deleted {w w' : World} {v v' : Value} {zl : List Pg} {z : Pg} {zr : List Pg} (h : Pgs w v (zl ++ z :: zr))
    (hrow : w'.ownsRow 0 65 1 v' ((zl ++ z :: zr).length - 1) ((dvs (zl ++ z :: zr)).take zl.length ++ (dvs (zl ++ z :: zr)).drop (zl.length + 1))) (hg : w.grownBy w' v.ownBlock) : Pgs w' v' (zl ++ zr) := by
  have hm : ∀ x ∈ zl ++ zr, x ∈ zl ++ z :: zr := fun x hx => by
    rcases List.mem_append.1 hx with hx | hx <;> simp [hx]
  refine ⟨?_, fun x hx => grown_keep (h.data x (hm x hx)) hg (fun k e e2 => own_ne (h.data x (hm x hx)) h.row (by decide) e2 e), h.apart.sublist (by simp)⟩
  have hl : (zl ++ z :: zr).length - 1 = (zl ++ zr).length := by simp
  have e : (dvs (zl ++ z :: zr)).take zl.length ++ (dvs (zl ++ z :: zr)).drop (zl.length + 1) = dvs (zl ++ zr) := by
    simp only [dvs, List.map_append, List.map_cons]
    rw [List.take_append_of_le_length (by simp), List.take_of_length_le (by simp), List.drop_append]
    simp
  rw [hl, e] at hrow
  exact hrow
/-- A page has come in. -/
theorem Pgs.inserted {w w' : World} {v v' : Value} {zl zr : List Pg} (h : Pgs w v (zl ++ zr)) (d : Value) (ks : List Ky)
    (hrow : w'.ownsRow 0 65 1 v' ((zl ++ zr).length + 1) ((dvs (zl ++ zr)).take zl.length ++ [d] ++ (dvs (zl ++ zr)).drop zl.length)) (hg : w.grownBy w' v.ownBlock)
    (hd : w.ownsRow 0 47 4 d ks.length (cellsK ks)) (hap : ∀ x ∈ zl ++ zr, Apart x ⟨d, ks⟩) : Pgs w' v' (zl ++ ⟨d, ks⟩ :: zr) := by
  have hkeep : ∀ (x : Pg), w.ownsRow 0 47 4 x.dv x.ks.length (cellsK x.ks) → w'.ownsRow 0 47 4 x.dv x.ks.length (cellsK x.ks) := fun x hx =>
    grown_keep hx hg (fun k e e2 => own_ne hx h.row (by decide) e2 e)
  have hapart := List.pairwise_append.1 h.apart
  refine ⟨?_, ?_, ?_⟩
  · have e : (dvs (zl ++ zr)).take zl.length ++ [d] ++ (dvs (zl ++ zr)).drop zl.length = dvs (zl ++ ⟨d, ks⟩ :: zr) := by
      simp only [dvs, List.map_append, List.map_cons]
      rw [List.take_append_of_le_length (by simp), List.take_of_length_le (by simp), List.drop_append_of_le_length (by simp), List.drop_eq_nil_of_le (by simp)]
      simp
    have hl : (zl ++ (⟨d, ks⟩ : Pg) :: zr).length = (zl ++ zr).length + 1 := by simp; omega
    rw [e] at hrow
    rw [hl]
    exact hrow
  · intro x hx
    rcases List.mem_append.1 hx with hx | hx
    · exact hkeep x (h.data x (by simp [hx]))
    · rcases List.mem_cons.1 hx with rfl | hx
      · exact hkeep _ hd
      · exact hkeep x (h.data x (by simp [hx]))
  · refine List.pairwise_append.2 ⟨hapart.1, List.pairwise_cons.2 ⟨fun x hx => (hap x (by simp [hx])).symm, hapart.2.1⟩, fun x hx y hy => ?_⟩
    rcases List.mem_cons.1 hy with rfl | hy
    · exact hap x (by simp [hx])
    · exact hapart.2.2 x hx y hy

def LtK (x y : Ky) : Prop := cmpL x.l y.l < 0
def keys (zs : List Pg) : List Ky := zs.flatMap Pg.ks
theorem keys_append (a b : List Pg) : keys (a ++ b) = keys a ++ keys b := by simp [keys]
theorem keys_cons (z : Pg) (b : List Pg) : keys (z :: b) = z.ks ++ keys b := by simp [keys]

theorem split_keys : ∀ (ks : List Ky) (k : Ky), ks.Pairwise LtK → ∃ C D, ks = C ++ D ∧ (∀ x ∈ C, cmpL x.l k.l < 0) ∧ (∀ x ∈ D, ¬ cmpL x.l k.l < 0)
  | [], _, _ => ⟨[], [], rfl, by simp, by simp⟩
  | x :: r, k, h => by
    by_cases hx : cmpL x.l k.l < 0
    · obtain ⟨C, D, rfl, hC, hD⟩ := split_keys r k (List.pairwise_cons.1 h).2
      exact ⟨x :: C, D, rfl, fun y hy => by rcases List.mem_cons.1 hy with rfl | hy; exact hx; exact hC y hy, hD⟩
    · refine ⟨[], x :: r, rfl, by simp, fun y hy hlt => ?_⟩
      rcases List.mem_cons.1 hy with rfl | hy
      · exact hx hlt
      · exact hx (cmpL_trans ((List.pairwise_cons.1 h).1 y hy) hlt)
theorem lastK_mem (z : Pg) (h : z.ks ≠ []) : lastK z ∈ z.ks := by
  unfold lastK
  have hp := List.length_pos_iff.2 h
  rw [List.getLastD_eq_getLast?, List.getLast?_eq_getElem?, List.getElem?_eq_getElem (by omega)]
  exact List.getElem_mem _
theorem at_some : ∀ (zs : List Pg) (k : Ky), (∀ z ∈ zs, z.ks ≠ []) → (keys zs).Pairwise LtK → ∃ A B at' f, zs = A ++ B ∧ At A B k at' f
  | [], k, _, _ => ⟨[], [], 0, false, rfl, by simp, by simp, fun _ => ⟨rfl, rfl⟩, fun z R h => by simp at h⟩
  | z :: r, k, hne, hup => by
    rw [keys_cons] at hup
    have hp := List.pairwise_append.1 hup
    by_cases hz : cmpL (lastK z).l k.l < 0
    · obtain ⟨A, B, at', f, rfl, h⟩ := at_some r k (fun y hy => hne y (by simp [hy])) hp.2.1
      exact ⟨z :: A, B, at', f, rfl, fun y hy => by rcases List.mem_cons.1 hy with rfl | hy; exact hz; exact h.pre y hy, h.post, h.none, h.some⟩
    · obtain ⟨C, D, hCD, hC, hD⟩ := split_keys z.ks k hp.1
      refine ⟨[], z :: r, C.length, fnd D k, rfl, by simp, fun y hy hlt => ?_, by simp, fun z' R e => ?_⟩
      · rcases List.mem_cons.1 hy with rfl | hy
        · exact hz hlt
        · have hl := hp.2.2 (lastK z) (lastK_mem z (hne z (by simp))) (lastK y) (List.mem_flatMap.2 ⟨y, hy, lastK_mem y (hne y (by simp [hy]))⟩)
          exact hz (cmpL_trans hl hlt)
      · simp only [List.cons.injEq] at e
        obtain ⟨rfl, rfl⟩ := e
        exact ⟨C, D, hCD, rfl, rfl, hC, hD⟩

/-- A set in memory: of this width, in these blocks, with these rows, rising. -/
structure Sv (w : World) (p wd : Nat) (v : Value) (zs : List Pg) (R : List (List Int)) : Prop where
  box : Bx w p 45 #[.int .i64 (wd : Int), v]
  pgs : Pgs w v zs
  ks : keys zs = R.map kyOf
  ne : ∀ z ∈ zs, z.ks ≠ []
  up : Up R
  wid : ∀ r ∈ R, r.length = wd
  le : wd ≤ 4
  min : ∀ r ∈ R, ∀ n ∈ r, -9223372036854775808 ≤ n
def ft (p : Nat) (v : Value) (zs : List Pg) (k : Nat) : Prop := k = p ∨ foot v zs k
def St (w : World) (p wd : Nat) (F : Nat → Prop) (R : List (List Int)) : Prop := ∃ v zs, F = ft p v zs ∧ Sv w p wd v zs R
theorem Sv.kept {w w' : World} {p wd : Nat} {v : Value} {zs : List Pg} {R : List (List Int)} {G : Nat → Prop} (h : Sv w p wd v zs R) (hf : Fr G w w') (hd : ∀ k, ft p v zs k → ¬ G k) : Sv w' p wd v zs R :=
  ⟨h.box.fr hf (hd p (.inl rfl)), h.pgs.kept hf (fun k hk => hd k (.inr hk)), h.ks, h.ne, h.up, h.wid, h.le, h.min⟩
theorem Sv.below {w w' : World} {p wd : Nat} {v : Value} {zs : List Pg} {R : List (List Int)} (h : Sv w p wd v zs R) (hb : Below w.heap.size w w') : Sv w' p wd v zs R := h.kept (G := fun _ => False) (Fr.of_below hb) fun _ _ => id
theorem St.kept {w w' : World} {p wd : Nat} {F : Nat → Prop} {R : List (List Int)} {G : Nat → Prop} (h : St w p wd F R) (hf : Fr G w w') (hd : ∀ k, F k → ¬ G k) : St w' p wd F R := by
  obtain ⟨v, zs, rfl, h⟩ := h
  exact ⟨v, zs, rfl, h.kept hf hd⟩
theorem St.below {w w' : World} {p wd : Nat} {F : Nat → Prop} {R : List (List Int)} (h : St w p wd F R) (hb : Below w.heap.size w w') : St w' p wd F R := h.kept (G := fun _ => False) (Fr.of_below hb) fun _ _ => id
theorem St.typ {w : World} {p wd : Nat} {F : Nat → Prop} {R : List (List Int)} (h : St w p wd F R) {k : Nat} (hk : F k) : ∃ t cs, Bx w k t cs ∧ (t = 45 ∨ t = 65 ∨ t = 47) := by
  obtain ⟨v, zs, rfl, h⟩ := h
  rcases hk with rfl | hk
  · exact ⟨45, _, h.box, .inl rfl⟩
  · obtain ⟨t, cs, hb, ht⟩ := h.pgs.typ hk
    exact ⟨t, cs, hb, .inr ht⟩
theorem St.lt {w : World} {p wd : Nat} {F : Nat → Prop} {R : List (List Int)} (h : St w p wd F R) {k : Nat} (hk : F k) : k < w.heap.size := by
  obtain ⟨_, _, hb, _⟩ := h.typ hk
  exact hb.lt

theorem up_keys {R : List (List Int)} {wd : Nat} (hup : Up R) (hw : ∀ r ∈ R, r.length = wd) (h4 : wd ≤ 4) : (R.map kyOf).Pairwise LtK := by
  rw [List.pairwise_map]
  refine List.Pairwise.imp_of_mem (fun {a b} ha hb hab => ?_) hup
  unfold LtK
  rw [cmp_ky (by rw [hw a ha, hw b hb]) (by rw [hw b hb]; exact h4)]
  exact hab

/-- Where a row would be: the rows ahead, the rows behind. -/
theorem part_rows {R : List (List Int)} {wd : Nat} (hup : Up R) (hw : ∀ x ∈ R, x.length = wd) (h4 : wd ≤ 4) {r : List Int} (hr : r.length = wd) {L1 L2 : List Ky} (e : R.map kyOf = L1 ++ L2)
    (h1 : ∀ x ∈ L1, cmpL x.l (kyOf r).l < 0) (h2 : ∀ x ∈ L2, ¬ cmpL x.l (kyOf r).l < 0) :
    ∃ R1 R2, R = R1 ++ R2 ∧ R1.map kyOf = L1 ∧ R2.map kyOf = L2 ∧ (∀ x ∈ R1, Lt x r) ∧
      (fnd L2 (kyOf r) = true → ∃ R3, R2 = r :: R3) ∧ (fnd L2 (kyOf r) = false → r ∉ R ∧ ∀ x ∈ R2, Lt r x) := by
  obtain ⟨R1, R2, rfl, e1, e2⟩ := List.map_eq_append_iff.1 e
  have hcmp : ∀ x ∈ R1 ++ R2, cmpL (kyOf x).l (kyOf r).l = cmpL x r := fun x hx => cmp_ky (by rw [hw x hx, hr]) (by omega)
  have hR1 : ∀ x ∈ R1, Lt x r := fun x hx => by
    have := h1 (kyOf x) (by rw [← e1]; exact List.mem_map_of_mem hx)
    rwa [hcmp x (by simp [hx])] at this
  have hR2 : ∀ x ∈ R2, ¬ cmpL x r < 0 := fun x hx => by
    have := h2 (kyOf x) (by rw [← e2]; exact List.mem_map_of_mem hx)
    rwa [hcmp x (by simp [hx])] at this
  refine ⟨R1, R2, rfl, e1, e2, hR1, fun hf => ?_, fun hf => ?_⟩
  · cases R2 with
    | nil => subst e2; simp [fnd] at hf
    | cons y R3 =>
      subst e2
      simp only [List.map_cons, fnd, decide_eq_true_eq] at hf
      rw [hcmp y (by simp)] at hf
      rw [cmpL_eq hf]
      exact ⟨R3, rfl⟩
  · have hgt : ∀ x ∈ R2, Lt r x := by
      cases R2 with
      | nil => simp
      | cons y R3 =>
        subst e2
        simp only [List.map_cons, fnd, decide_eq_false_iff_not] at hf
        rw [hcmp y (by simp)] at hf
        have hry : Lt r y := by
          rcases cmpL_cases r y with h | h | h
          · exact h
          · rw [h] at hf; exact absurd (cmpL_self _) hf
          · exact absurd h (hR2 y (by simp))
        intro x hx
        rcases List.mem_cons.1 hx with rfl | hx
        · exact hry
        · exact hry.trans ((List.pairwise_cons.1 (List.pairwise_append.1 hup).2.1).1 x hx)
    refine ⟨fun hm => ?_, hgt⟩
    rcases List.mem_append.1 hm with hm | hm
    · exact Lt.irr r (hR1 r hm)
    · exact Lt.irr r (hgt r hm)
theorem up_put {R1 R2 : List (List Int)} {r : List Int} (h : Up (R1 ++ R2)) (h1 : ∀ x ∈ R1, Lt x r) (h2 : ∀ x ∈ R2, Lt r x) : Up (R1 ++ r :: R2) := by
  obtain ⟨a, b, c⟩ := List.pairwise_append.1 h
  refine List.pairwise_append.2 ⟨a, List.pairwise_cons.2 ⟨h2, b⟩, fun x hx y hy => ?_⟩
  rcases List.mem_cons.1 hy with rfl | hy
  · exact h1 x hx
  · exact c x hx y hy
theorem up_cut {R1 R2 : List (List Int)} {r : List Int} (h : Up (R1 ++ r :: R2)) : Up (R1 ++ R2) := List.Pairwise.sublist (by simp) h
end Go.Proofs.Ytfjcadkihnecdaa
namespace Go.Proofs.Ytfjcadkihnecdaa
open Go.RowKit

theorem le_last : ∀ (l : List Ky), l.Pairwise LtK → ∀ x ∈ l, ∀ (d : Ky), x = l.getLastD d ∨ LtK x (l.getLastD d)
  | [], _, x, hx, _ => by simp at hx
  | [y], _, x, hx, _ => by simp at hx; exact .inl (by simp [hx])
  | y :: z :: r, h, x, hx, d => by
    have hp := List.pairwise_cons.1 h
    have e : (y :: z :: r).getLastD d = (z :: r).getLastD d := by simp [List.getLastD_eq_getLast?]
    rw [e]
    rcases List.mem_cons.1 hx with rfl | hx
    · have hm : (z :: r).getLastD d ∈ z :: r := by
        rw [List.getLastD_eq_getLast?, List.getLast?_eq_getElem?, List.getElem?_eq_getElem (by simp)]
        exact List.getElem_mem _
      exact .inr (hp.1 _ hm)
    · exact le_last (z :: r) hp.2 x hx d

/-- Where a row is or would be. -/
structure Loc (zs0 : List Pg) (R : List (List Int)) (r : List Int) (A B : List Pg) (at' : Nat) (f : Bool) (R1 R2 : List (List Int)) : Prop where
  zs : zs0 = A ++ B
  plc : At A B (kyOf r) at' f
  rows : R = R1 ++ R2
  lo : ∀ x ∈ R1, Lt x r
  yes : f = true → ∃ R3, R2 = r :: R3
  no : f = false → r ∉ R ∧ ∀ x ∈ R2, Lt r x
  none : B = [] → R1.map kyOf = keys A ∧ R2 = []
  some : ∀ z T, B = z :: T → ∃ C x D, z.ks = C ++ x :: D ∧ at' = C.length ∧ R1.map kyOf = keys A ++ C ∧ R2.map kyOf = x :: D ++ keys T
theorem loc {w : World} {p wd : Nat} {v : Value} {zs : List Pg} {R : List (List Int)} (h : Sv w p wd v zs R) (r : List Int) (hr : r.length = wd) : ∃ A B at' f R1 R2, Loc zs R r A B at' f R1 R2 := by
  have hup := up_keys h.up h.wid h.le
  rw [← h.ks] at hup
  obtain ⟨A, B, at', f, rfl, hat⟩ := at_some zs (kyOf r) h.ne hup
  have hks := h.ks
  rw [keys_append] at hup hks
  obtain ⟨hu1, hu2, hu12⟩ := List.pairwise_append.1 hup
  have hA : ∀ x ∈ keys A, cmpL x.l (kyOf r).l < 0 := fun x hx => by
    obtain ⟨z, hz, hxz⟩ := List.mem_flatMap.1 hx
    have hzp : z.ks.Pairwise LtK := hu1.sublist (by
      obtain ⟨a, b, rfl⟩ := List.append_of_mem hz
      rw [keys_append, keys_cons]
      exact (List.sublist_append_left _ _).trans (List.sublist_append_right _ _))
    rcases le_last z.ks hzp x hxz ⟨0, 0, 0, 0⟩ with e | e
    · rw [e]; exact hat.pre z hz
    · exact cmpL_trans e (hat.pre z hz)
  cases B with
  | nil =>
    obtain ⟨h0, hf⟩ := hat.none rfl
    have e : R.map kyOf = keys A ++ [] := by rw [← hks]; rfl
    obtain ⟨R1, R2, rfl, e1, e2, k1, k2, k3⟩ := part_rows h.up h.wid h.le hr e hA (by simp)
    have hR2 : R2 = [] := by simpa using e2
    subst hR2
    refine ⟨A, [], at', f, R1, [], rfl, hat, rfl, k1, fun e => ?_, fun _ => ⟨(k3 rfl).1, by simp⟩, fun _ => ⟨e1, rfl⟩, fun z T e => by simp at e⟩
    rw [hf] at e
    cases e
  | cons z T =>
    obtain ⟨C, D, hzk, hat', hf, hC, hD⟩ := hat.some z T rfl
    have hzp : z.ks.Pairwise LtK := by
      rw [keys_cons] at hu2
      exact (List.pairwise_append.1 hu2).1
    have hlz : lastK z ∈ z.ks := lastK_mem z (h.ne z (by simp))
    have hlast := hat.post z (by simp)
    cases D with
    | nil =>
      exfalso
      rw [hzk, List.append_nil] at hlz
      exact hlast (hC _ hlz)
    | cons x D =>
      have e : R.map kyOf = (keys A ++ C) ++ (x :: D ++ keys T) := by rw [← hks, keys_cons, hzk]; simp
      obtain ⟨R1, R2, rfl, e1, e2, k1, k2, k3⟩ := part_rows h.up h.wid h.le hr e (fun y hy => by
        rcases List.mem_append.1 hy with hy | hy
        · exact hA y hy
        · exact hC y hy) (fun y hy => by
        rcases List.mem_append.1 hy with hy | hy
        · exact hD y hy
        · intro hlt
          have hly : LtK (lastK z) y := by
            rw [keys_cons] at hu2
            exact (List.pairwise_append.1 hu2).2.2 _ hlz y hy
          exact hlast (cmpL_trans hly hlt))
      have hfe : fnd (x :: D ++ keys T) (kyOf r) = f := by rw [hf]; rfl
      rw [hfe] at k2 k3
      exact ⟨A, z :: T, at', f, R1, R2, rfl, hat, rfl, k1, k2, k3, fun e => by simp at e, fun z' T' e => by
        simp only [List.cons.injEq] at e
        obtain ⟨rfl, rfl⟩ := e
        exact ⟨C, x, D, hzk, hat', e1, e2⟩⟩
theorem Loc.found {zs : List Pg} {R : List (List Int)} {r : List Int} {A B : List Pg} {at' : Nat} {f : Bool} {R1 R2 : List (List Int)} (h : Loc zs R r A B at' f R1 R2) : f = decide (r ∈ R) := by
  cases f with
  | true =>
    obtain ⟨R3, e⟩ := h.yes rfl
    rw [decide_eq_true]
    rw [h.rows, e]
    simp
  | false =>
    rw [decide_eq_false (h.no rfl).1]

theorem keys_le (zs : List Pg) : ∀ z ∈ zs, z.ks.length ≤ (keys zs).length := fun z hz => by
  obtain ⟨a, b, rfl⟩ := List.append_of_mem hz
  rw [keys_append, keys_cons]
  simp
  omega
theorem pages_le : ∀ (zs : List Pg), (∀ z ∈ zs, z.ks ≠ []) → zs.length ≤ (keys zs).length
  | [], _ => by simp
  | z :: r, h => by
    have ih := pages_le r (fun y hy => h y (by simp [hy]))
    have := List.length_pos_iff.2 (h z (by simp))
    rw [keys_cons]
    simp
    omega
theorem Sv.size {w : World} {p wd : Nat} {v : Value} {zs : List Pg} {R : List (List Int)} (h : Sv w p wd v zs R) : (∀ z ∈ zs, z.ks.length ≤ R.length) ∧ zs.length ≤ R.length := by
  have e : (keys zs).length = R.length := by rw [h.ks, List.length_map]
  rw [← e]
  exact ⟨keys_le zs, pages_le zs h.ne⟩

theorem fits_some (p wd : Nat) (v : Value) (vr : Value) (r : List Int) (w : World) (hB : Bx w p 45 #[.int .i64 (wd : Int), v]) (hr : Is w vr r) :
    Calls Try.prog 18 #[.pointer (some ⟨p, 0, none⟩), vr] w fun e w' => e = .returned (.bool (decide (r.length = wd))) ∧ w' = w := by
  obtain ⟨ao, cap, rfl, _⟩ := hr
  have c0 := hB.c 0
  simp at c0
  obtain ⟨b, hb⟩ : ∃ b, ((r.length : Int) == (wd : Int)) = b := ⟨_, rfl⟩
  have HD : Hid (decide (r.length = wd) = b) := by
    show _ = _
    rw [← hb]
    by_cases h : r.length = wd
    · simp [h]
    · rw [decide_eq_false h]; symm; rw [beq_eq_false_iff_ne]; omega
  go_enter Try.func18, Try.ntmps18
  go_wp2_with fail
  go_ret
  exact ⟨by rw [HD.out]; first | rfl | (rw [← hb]), rfl⟩

set_option maxHeartbeats 3200000 in
theorem has_any {w : World} {p wd : Nat} {F : Nat → Prop} {R : List (List Int)} (h : St w p wd F R) (vr : Value) (r : List Int) (hr : Is w vr r) (hl : R.length ≤ 1000000000) :
    Calls Try.prog 11 #[.pointer (some ⟨p, 0, none⟩), vr] w fun e w' => e = .returned (.bool (decide (r ∈ R))) ∧ Below w.heap.size w w' := by
  obtain ⟨v, zs, -, h⟩ := h
  have HF := hide (fits_some p wd v vr r w h.box hr)
  by_cases hrw : r.length = wd
  · rw [decide_eq_true hrw] at HF
    obtain ⟨A, B, at', f, R1, R2, hloc⟩ := loc h r hrw
    rw [← hloc.found]
    have hzs := hloc.zs
    subst hzs
    have hsz := h.size
    have HC : Hid (∀ W, Below w.heap.size w W → Calls Try.prog 20 #[v, .agg #[.int .i64 (kyOf r).a, .int .i64 (kyOf r).b, .int .i64 (kyOf r).c, .int .i64 (kyOf r).d]] W fun e w' => e = .returned (.tuple #[.agg #[.int .i64 (A.length : Int), .int .i64 (at' : Int)], .bool f]) ∧ Below W.heap.size W w') := fun W hW =>
      find_any v A B (kyOf r) at' f W (h.pgs.below hW).ps h.ne (fun z hz => by have := hsz.1 z hz; omega) (by have := hsz.2; omega) hloc.plc
    have HK : Hid (∀ W, Below w.heap.size w W → Calls Try.prog 19 #[vr] W fun e w' => e = .returned (.agg #[.int .i64 (kyOf r).a, .int .i64 (kyOf r).b, .int .i64 (kyOf r).c, .int .i64 (kyOf r).d]) ∧ Below W.heap.size W w') := fun W hW =>
      keyOf_any vr r W (hr.below hW) (by have := h.le; omega)
    have HBx : Hid (∀ W, Below w.heap.size w W → W.cell? ⟨p, 1, none⟩ = some v) := fun W hW => (h.box.below hW).c 1
    have c1 := HBx.out w (Below.refl _ _)
    obtain ⟨ao, cap, rfl, -⟩ := hr
    obtain ⟨ao2, N, cap2, rfl⟩ := own_slice h.pgs.row
    have c1a : ∀ o, (w.alloc o).cell? ⟨p, 1, none⟩ = some (.slice ao2 N cap2) := fun o => cell_below' c1 (below_box _ o)
    generalize kyOf r = k at *
    clear h hloc hsz hl hrw
    go_enter Try.func11, Try.ntmps11
    go_wp2_with (go_at_call 18; refine Calls.mono HF.out ?_; rintro e w' ⟨rfl, hw⟩; have hw' := hw.symm; subst hw'; clear hw)
    refine wp_region_noPanic ?_
    go_region_law (first
      | (have m5 := HP5; go_simp; go_at_call 20; (refine Calls.mono (HC.out w5 HB5.out) ?_); rintro e w6 ⟨rfl, hb6⟩; have HB6 := hide (HB5.out.trans (hb6.mono HB5.out.size)); have d0 := (m5.out.below hb6).c 0; have d1 := (m5.out.below hb6).c 1; have f0 := (m5.out.below hb6).f 0; have f1 := (m5.out.below hb6).f 1; simp at d0 d1; clear hb6)
      | (have m5 := HQ5; go_simp; go_at_call 20; (refine Calls.mono (HC.out (w5.alloc (.cells #[.int .i64 0, .int .i64 0] 50)) (HB5.out.trans ((below_box w5 _).mono HB5.out.size))) ?_); rintro e w6 ⟨rfl, hb6⟩; have HB6 := hide ((HB5.out.trans ((below_box w5 _).mono HB5.out.size)).trans (hb6.mono (HB5.out.trans ((below_box w5 _).mono HB5.out.size)).size)); have hq6 := (Bx.new w5 #[.int .i64 0, .int .i64 0] 50).below hb6; have d0 := hq6.c 0; have d1 := hq6.c 1; have f0 := hq6.f 0; have f1 := hq6.f 1; simp at d0 d1; clear hb6 hq6)
      | (have m5 := HQ5; go_simp; go_at_call 20; (refine Calls.mono (HC.out w5 HB5.out) ?_); rintro e w6 ⟨rfl, hb6⟩; have HB6 := hide (HB5.out.trans (hb6.mono HB5.out.size)); clear hb6)
      | (go_simp; go_at_call 19; (refine Calls.mono (HK.out w.drew (Below.refl _ _).drew) ?_); rintro e w5 ⟨rfl, hb5⟩; have HB5 := hide ((Below.refl _ w).drew.trans hb5); have q5 := HBx.out w5 HB5.out; have q5a : ∀ o, (w5.alloc o).cell? ⟨p, 1, none⟩ = some (.slice ao2 N cap2) := fun o => cell_below' q5 (below_box _ o); have HQ5 := hide True.intro; clear hb5)
      | (go_simp; go_at_call 19; (refine Calls.mono (HK.out (w.drew.alloc (.cells #[.int .i64 0, .int .i64 0] 50)) ((Below.refl _ _).drew.alloc (Nat.le_refl _) _)) ?_); rintro e w5 ⟨rfl, hb5⟩; have HB5 : Hid (Below w.heap.size w w5) := ((Below.refl _ w).drew.alloc (Nat.le_refl _) _).trans (hb5.mono (by simp)); have HP5 : Hid (Bx w5 w.heap.size 50 #[.int .i64 0, .int .i64 0]) := ((Bx.new w.drew #[.int .i64 0, .int .i64 0] 50).below hb5); have q5 := HBx.out w5 HB5.out; clear hb5))
    all_goals refine NoPanic.normal ?_
    all_goals go_wp2_with fail
    all_goals go_ret
    all_goals first
      | exact ⟨rfl, HB6.out.trans ((below_box w6 _).mono HB6.out.size)⟩
      | exact ⟨rfl, (HB6.out.setCell (p := ⟨w5.heap.size, 0, none⟩) HB5.out.size _).setCell (p := ⟨w5.heap.size, 1, none⟩) HB5.out.size _⟩
      | exact ⟨rfl, (HB6.out.setCell (p := ⟨w.heap.size, 0, none⟩) (Nat.le_refl _) _).setCell (p := ⟨w.heap.size, 1, none⟩) (Nat.le_refl _) _⟩
  · rw [decide_eq_false hrw] at HF
    have HE : Hid (decide (r ∈ R) = false) := decide_eq_false fun hm => hrw (h.wid r hm)
    obtain ⟨ao, cap, rfl, -⟩ := hr
    clear h hl hrw
    go_enter Try.func11, Try.ntmps11
    go_wp2_with (go_at_call 18; refine Calls.mono HF.out ?_; rintro e w' ⟨rfl, hw⟩; have hw' := hw.symm; subst hw'; clear hw)
    go_ret
    exact ⟨by rw [HE.out]; rfl, Below.refl _ _⟩
end Go.Proofs.Ytfjcadkihnecdaa

/- What is read off any file is a front of it; the file that an open log leaves is the log's own. The walk of countUpTo. The walk of slices.Delete of records. The walks of dropBack and dropFront. The walk of dropFront. -/
import Derived.Test.YtjndgekpdmlbiaaGreatDoorPart16
import Derived.Test.YtjndgekpdmlbiaaGreatDoorPart05
namespace Go.Proofs.YtjndgekpdmlbiaaGreatDoor.Wl
open Go.RowKit Dk

theorem scan_front : ∀ (m : Nat) (bs : List UInt8), bs.length ≤ m → ((Fr.scanL bs).1.flatMap Fr.sealL) <+: bs
  | 0, bs, h => by
    have : bs = [] := List.eq_nil_of_length_eq_zero (by omega)
    subst this
    rw [Fr.scan_nil]
    exact List.prefix_refl _
  | m + 1, bs, h => by
    cases hf : Fr.firstB bs with
    | none => rw [Fr.scan_none hf]; exact List.nil_prefix
    | some b =>
      have hs := Fr.first_some hf
      rw [Fr.scan_some hf]
      have ih := scan_front m (bs.drop (8 + b.length)) (by rw [List.length_drop]; have := hs.2.2; omega)
      rw [List.flatMap_cons]
      obtain ⟨r, hr⟩ := ih
      refine ⟨r, ?_⟩
      rw [List.append_assoc, hr]
      exact hs.2.1.symm
theorem load_front : ∀ (bs : List (List UInt8)) (f : Int) (acc : List (List UInt8)) (g : Int) (ds : List (List UInt8)), loadR bs f acc = (g, ds) → ∃ more, ds = acc ++ more ∧ (more = [] → g = f) ∧ (acc ≠ [] → g = f) ∧ fileB (if acc.length = 0 then g else f + acc.length) more <+: bs.flatMap Fr.sealL ∧ (∀ d ∈ more, d.length ≤ 32768) ∧ (more ≠ [] → 1 ≤ (if acc.length = 0 then g else f + acc.length) ∧ (if acc.length = 0 then g else f + acc.length) + more.length ≤ 9223372036854775808)
  | [], f, acc, g, ds, h => by
    rw [loadR, Prod.mk.injEq] at h
    obtain ⟨rfl, rfl⟩ := h
    exact ⟨[], by simp, fun _ => rfl, fun _ => rfl, List.nil_prefix, by simp, fun h => absurd rfl h⟩
  | body :: r, f, acc, g, ds, h => by
    rw [loadR] at h
    cases hu : unsealL body with
    | none =>
      rw [hu] at h
      simp only [Prod.mk.injEq] at h
      obtain ⟨rfl, rfl⟩ := h
      exact ⟨[], by simp, fun _ => rfl, fun _ => rfl, List.nil_prefix, by simp, fun h => absurd rfl h⟩
    | some nd =>
      obtain ⟨n, d⟩ := nd
      rw [hu] at h
      simp only at h
      by_cases hm : mayL f acc n = true
      · rw [if_pos hm] at h
        have hb := unseal_back hu
        obtain ⟨m1, m2⟩ : 1 ≤ n ∧ (acc.length = 0 ∨ n - 1 = (if acc.length = 0 then 0 else f + acc.length - 1)) := by simpa [mayL] using hm
        obtain ⟨more, h1, h2, h3, h4, h5, h6⟩ := load_front r _ _ g ds h
        have hg : g = if acc.length = 0 then n else f := h3 (by simp)
        have hnum : (if acc.length = 0 then g else f + acc.length) = n := by
          by_cases ha : acc.length = 0
          · rw [if_pos ha, hg, if_pos ha]
          · rw [if_neg ha] at m2 ⊢
            omega
        have hnext : (if (acc ++ [d]).length = 0 then g else (if acc.length = 0 then n else f) + ((acc ++ [d]).length : Int)) = n + 1 := by
          rw [if_neg (by simp), List.length_append]
          by_cases ha : acc.length = 0
          · rw [if_pos ha]; simp [ha]
          · rw [if_neg ha]
            rw [if_neg ha] at hnum
            simp
            omega
        rw [hnext] at h4 h6
        refine ⟨d :: more, by rw [h1]; simp, fun e => by simp at e, fun ha => ?_, ?_, fun x hx => ?_, ?_⟩
        · rw [hg, if_neg (fun e => ha (List.eq_nil_of_length_eq_zero e))]
        · rw [hnum, fileB, List.flatMap_cons]
          unfold recB
          rw [← hb.1]
          exact (List.prefix_append_right_inj _).2 h4
        · rcases List.mem_cons.1 hx with rfl | hx
          · exact hb.2.2.2
          · exact h5 x hx
        · intro _
          rw [hnum, List.length_cons]
          refine ⟨m1, ?_⟩
          by_cases hmo : more = []
          · subst hmo
            simp
            omega
          · have := (h6 hmo).2
            omega
      · rw [if_neg hm, Prod.mk.injEq] at h
        obtain ⟨rfl, rfl⟩ := h
        exact ⟨[], by simp, fun _ => rfl, fun _ => rfl, List.nil_prefix, by simp, fun h => absurd rfl h⟩
/-- What is read off a file: its own file is a front of that file, and is read as it. -/
theorem load_any (fb : List UInt8) (g : Int) (ds : List (List UInt8)) (h : loadR (Fr.scanL fb).1 0 [] = (g, ds)) : fileB g ds <+: fb ∧ (ds = [] → g = 0) ∧ (∀ d ∈ ds, d.length ≤ 32768) ∧ (ds ≠ [] → 1 ≤ g ∧ g + ds.length ≤ 9223372036854775808) ∧ loadR (Fr.scanL (fileB g ds)).1 0 [] = (g, ds) := by
  obtain ⟨more, h1, h2, _, h4, h5, h6⟩ := load_front _ 0 [] g ds h
  simp only [List.nil_append] at h1
  subst h1
  simp only [List.length_nil, if_true] at h4 h6
  refine ⟨h4.trans (scan_front _ fb (Nat.le_refl _)), h2, h5, h6, ?_⟩
  cases ds with
  | nil => rw [h2 rfl, fileB, Fr.scan_nil]; rfl
  | cons d r =>
    have h7 := h6 (by simp)
    rw [load_file (d :: r) g h5 h7.1 h7.2, if_neg (by simp)]
end Go.Proofs.YtjndgekpdmlbiaaGreatDoor.Wl
namespace Go.Proofs.YtjndgekpdmlbiaaGreatDoor.Wl
open Go.RowKit Dk

/-- How many records have numbers up to n. -/
def cnt (first : Int) (ds : List (List UInt8)) (n : Int) : Nat := if lastL first ds ≤ n then ds.length else (n - first + 1).toNat

set_option maxHeartbeats 1000000 in
theorem count_any (B p pd : Nat) (s : St) (F : Nat → Prop) (first : Int) (ds : List (List UInt8)) (n : Int) (w : World) (h : LW w B p pd s F first ds) (h0 : 0 ≤ n) (h1 : n ≤ 9223372036854775806) :
    Calls Tryz.prog 79 #[.pointer (some ⟨p, 0, none⟩), .int .i64 n] w fun e w' => e = .returned (.int .i64 (cnt first ds n : Nat)) ∧ ∃ m, w' = w.drewN m := by
  have HL : Hid (_) := h.last
  obtain ⟨_, ⟨vr, rs, G, hL, rfl, _⟩, _, _⟩ := h
  obtain ⟨c0, c1, c2, _⟩ := hL.cells
  obtain ⟨ao, cap, rfl, _⟩ := hL.shape
  have hfit := hL.fit
  have HD : Hid (∀ m, (w.drewN m).cell? ⟨p, 1, none⟩ = some (.int .i64 first) ∧ (w.drewN m).cell? ⟨p, 2, none⟩ = some (.slice ao rs.length cap)) := fun m => ⟨c1, c2⟩
  unfold cnt
  rw [List.length_map]
  obtain ⟨l, Hl⟩ : ∃ l, Hid (l = lastL first (rs.map Re.data)) := ⟨_, (rfl : _ = _)⟩
  rw [← Hl.out] at HL ⊢
  obtain ⟨N, HN⟩ : ∃ N, Hid (N = rs.length) := ⟨_, (rfl : _ = _)⟩
  rw [← HN.out] at HD hfit ⊢
  clear hL c0 c1 c2
  by_cases hc : l ≤ n
  · rw [if_pos hc]
    go_enter Tryz.func79, Tryz.ntmps79
    go_wp2_with (go_at_call 48; refine Calls.mono HL.out ?_; rintro e w1 ⟨rfl, m, rfl⟩; obtain ⟨d1, d2⟩ := HD.out m; clear HD)
    go_ret
    exact ⟨rfl, m, rfl⟩
  · rw [if_neg hc]
    by_cases hz : n - first + 1 < 0
    · have hT : ((n - first + 1).toNat : Int) = 0 := by omega
      rw [hT]
      go_enter Tryz.func79, Tryz.ntmps79
      go_wp2_with (go_at_call 48; refine Calls.mono HL.out ?_; rintro e w1 ⟨rfl, m, rfl⟩; obtain ⟨d1, d2⟩ := HD.out m; clear HD)
      go_ret
      exact ⟨rfl, m, rfl⟩
    · have hT : ((n - first + 1).toNat : Int) = n - first + 1 := by omega
      rw [hT]
      go_enter Tryz.func79, Tryz.ntmps79
      go_wp2_with (go_at_call 48; refine Calls.mono HL.out ?_; rintro e w1 ⟨rfl, m, rfl⟩; obtain ⟨d1, d2⟩ := HD.out m; clear HD)
      go_ret
      exact ⟨rfl, m, rfl⟩
end Go.Proofs.YtjndgekpdmlbiaaGreatDoor.Wl
namespace Go.Proofs.YtjndgekpdmlbiaaGreatDoor.Wl
open Go.RowKit Dk

/-- Cells of so many zero records. -/
def zc (k : Nat) : List Value := (Builtin.zeroCells #[.slice none 0 0, .int .i64 0] k).toList
theorem zc_len (k : Nat) : (zc k).length = k * 2 := by simp [zc, Builtin.zeroCells]
theorem zc_one (k : Nat) : ∀ u ∈ zc k, u.oneCell' = true := by
  intro u hu
  simp only [zc, Builtin.zeroCells, Array.toList_map, List.mem_map, Array.toList_range, List.mem_range] at hu
  obtain ⟨j, _, rfl⟩ := hu
  have h2 : j % 2 = 0 ∨ j % 2 = 1 := by omega
  simp only [show (#[Value.slice none 0 0, Value.int .i64 0] : Array Value).size = 2 from rfl]
  rcases h2 with h | h <;> rw [h] <;> rfl

theorem run_clear_recs {P : Program} (w : World) (t e ty : TypeId) (z : Value) (ht : P.underlying t = some (.slice e)) (hv : ∀ w, (zeroValue e).run P w = .ok z w) (hz : z.cells = #[.slice none 0 0, .int .i64 0]) (g o k c : Nat) (hk : 0 < k)
    (hc : ∀ j, j < k * 2 → (w.cell? ⟨g, o + j, none⟩).isSome = true) (hf : ∀ j, j < k * 2 → w.frozen? ⟨g, o + j, none⟩ = false) :
    (Builtin.clear_ #[t] ty #[.slice (some ⟨g, o, none⟩) k c]).run P w = .ok (.tuple #[]) (w.setCells g o (zc k)) := by
  have hst := run_storeCells_cells (P := P) g o (zc k) 0 w (by rw [zc_len]; simpa using hc) (by rw [zc_len]; simpa using hf) (zc_one k)
  simp only [Nat.add_zero] at hst
  obtain ⟨m, rfl⟩ : ∃ m, k = m + 1 := ⟨k - 1, by omega⟩
  unfold zc at hst ⊢
  simp [Builtin.clear_, run_underlying ht, hv, hz, hst]

set_option maxHeartbeats 2000000 in
set_option maxRecDepth 20000 in
theorem delete_recs (v : Value) (n i j : Nat) (xs : List Value) (w : World) (h : w.ownsRow 0 161 2 v n xs) (hij : i < j) (hj : j ≤ n) (hn : n ≤ 1000000000) (h1 : ∀ u ∈ xs, u.oneCell' = true) :
    Calls Tryz.prog 107 #[v, .int .i64 (i : Int), .int .i64 (j : Int)] w fun e w' => ∃ v', e = .returned v' ∧ w'.ownsRow 0 161 2 v' (n - (j - i)) (xs.take (i * 2) ++ xs.drop (j * 2)) ∧ w.grownBy w' v.ownBlock ∧ v'.ownBlock = v.ownBlock := by
  obtain ⟨I, hI, hz0, hz1, hz2⟩ := info_parts Tryz.info161
  obtain ⟨g, cap, cur, rfl, hg, hnc, hcm, hcs, htk⟩ : ∃ (g cap : Nat) (cur : Array Value), v = .slice (some ⟨g, 0, none⟩) n cap ∧ w.heap[g]? = some (.cells cur 161 (0, 0)) ∧ n ≤ cap ∧ cap ≤ maxLen ∧ cur.size = cap * 2 ∧ cur.toList.take (n * 2) = xs := by
    rcases h.2 with ⟨_, h0⟩ | ⟨g', cap', cur, e, _, hg, hn, hc, hs, ht⟩
    · omega
    · exact ⟨g', cap', cur, e, hg, hn, hc, hs, ht⟩
  have hxl : xs.length = n * 2 := h.1
  have hcl : cur.toList.length = cap * 2 := by rw [Array.length_toList, hcs]
  have hdl : (xs.drop (j * 2)).length = (n - j) * 2 := by rw [List.length_drop, hxl]; omega
  obtain ⟨A, hA, HA⟩ : ∃ A : Addr, (if cap = j then some (⟨g, 0, none⟩ : Addr) else some ⟨g, j * 2, none⟩) = some A ∧ Hid (∀ t u, (xs.drop (j * 2))[t]? = some u → w.drew.cell? (A.add t) = some u) := by
    by_cases hc : cap = j
    · refine ⟨⟨g, 0, none⟩, by simp [hc], fun t u hu => ?_⟩
      rw [List.drop_eq_nil_of_le (by omega)] at hu
      simp at hu
    · refine ⟨⟨g, j * 2, none⟩, by simp [hc], fun t u hu => ?_⟩
      rw [Addr.add_lit, cell_of_row w.drew _ _ _ _ _ hg]
      rw [← htk, List.getElem?_drop, List.getElem?_take] at hu
      split at hu
      · simpa using hu
      · simp at hu
  obtain ⟨L, HL⟩ : ∃ L, L = n - (j - i) := ⟨_, rfl⟩
  obtain ⟨K, HK⟩ : ∃ K, K = j - i := ⟨_, rfl⟩
  rw [← HL]
  obtain ⟨W1, HW1⟩ : ∃ W1, Hid (W1 = w.drew.setCells g (i * 2) (xs.drop (j * 2))) := ⟨w.drew.setCells g (i * 2) (xs.drop (j * 2)), (rfl : _ = _)⟩
  have hap : ∀ ty c, (Builtin.append_ #[102, 102] ty #[.slice (some ⟨g, 0, none⟩) i cap, .slice (some A) (n - j) c]).run Tryz.prog w.drew = .ok (.slice (some ⟨g, 0, none⟩) L cap) W1 := fun ty c => by
    have := run_append_room_src (P := Tryz.prog) w.drew 102 102 ty 161 I Tryz.underlying102 hI g 0 i cap (.slice (some A) (n - j) c) (n - j) (xs.drop (j * 2)) (by rw [hz1]; exact Src.ofSlice w.drew Tryz.underlying102 A _ c _ hdl HA.out (fun u hu => h1 u (List.mem_of_mem_drop hu))) (by omega) (fun t ht => some_of_heap (w := w.drew) hg _ (by rw [hz1]; omega)) (fun t ht => frozen_of_heap (w := w.drew) hg _)
    rw [this, hz1, HW1.out, Nat.zero_add, show i + (n - j) = L by omega]
  have hH1 : W1.heap[g]? = some (.cells (put cur.toList (i * 2) (xs.drop (j * 2))).toArray 161 (0, 0)) := by
    rw [HW1.out]; exact heap_setCells _ _ w.drew _ hg (by rw [hdl]; omega)
  have hpl := put_len cur.toList (i * 2) (xs.drop (j * 2)) (by rw [hdl, hcl]; omega)
  obtain ⟨W2, HW2⟩ : ∃ W2, Hid (W2 = W1.setCells g (L * 2) (zc K)) := ⟨W1.setCells g (L * 2) (zc K), (rfl : _ = _)⟩
  have hclr : ∀ ty c, (Builtin.clear_ #[102] ty #[.slice (some ⟨g, L * 2, none⟩) K c]).run Tryz.prog W1 = .ok (.tuple #[]) W2 := fun ty c => by
    rw [HW2.out]
    exact run_clear_recs W1 102 161 ty _ Tryz.underlying102 (fun w => by simp only [zeroValue, typeInfo, Sem.run_bind]; simp [hI, hz0]; rfl) rfl g _ K c (by omega) (fun t ht => some_of_heap hH1 _ (by rw [List.size_toArray, hpl, hcl]; omega)) (fun t ht => frozen_of_heap hH1 _)
  have hH2 : W2.heap[g]? = some (.cells (put (put cur.toList (i * 2) (xs.drop (j * 2))) (L * 2) (zc K)).toArray 161 (0, 0)) := by
    rw [HW2.out]; exact heap_setCells _ _ W1 (put cur.toList (i * 2) (xs.drop (j * 2))).toArray hH1 (by rw [List.size_toArray, hpl, hcl, zc_len]; omega)
  have HE : Hid (W2.ownsRow 0 161 2 (.slice (some ⟨g, 0, none⟩) L cap) L (xs.take (i * 2) ++ xs.drop (j * 2)) ∧ w.grownBy W2 (some g)) := by
    refine ⟨own_of_heap hH2 (by omega) hcm ?_ ?_, ?_⟩
    · rw [List.size_toArray, put_len _ _ _ (by rw [hpl, hcl, zc_len]; omega), hpl, hcl]
    · apply List.ext_getElem?
      intro t
      have e1 : (xs.take (i * 2)).length = i * 2 := by rw [List.length_take, hxl]; omega
      simp only
      rw [List.getElem?_take]
      split
      · rw [put_get _ _ _ (by rw [hpl, hcl, zc_len]; omega), if_neg (by omega), put_get _ _ _ (by rw [hdl, hcl]; omega), hdl]
        by_cases c1 : t < i * 2
        · rw [if_neg (by omega), List.getElem?_append_left (by omega), List.getElem?_take, if_pos c1, ← htk, List.getElem?_take, if_pos (by omega)]
        · rw [if_pos (by omega), List.getElem?_append_right (by omega), e1]
      · rw [List.getElem?_eq_none (by simp; omega)]
    · have hgr := grown_drew_left (grown_setCells g (xs.drop (j * 2)) (i * 2) w.drew)
      rw [← HW1.out] at hgr
      have hg2 := grown_setCells g (zc K) (L * 2) W1
      rw [← HW2.out] at hg2
      exact hgr.trans hg2
  have hcap : cap ≤ 9223372036854775807 := hcm
  have hb1 : (0 : Int) ≤ (j : Int) := by omega
  have hb2 : (j : Int) ≤ (n : Int) := by omega
  have hb3 : (i : Int) ≤ (j : Int) := by omega
  have hb4 : ¬ ((i : Int) = (j : Int)) := by omega
  have hb5 : (i : Int) ≤ (cap : Int) := by omega
  have hb6 : (i : Int) ≤ (n : Int) := by omega
  have hb8 : ¬ (cap = L) := by omega
  have hb9 : (n : Int) ≤ (cap : Int) := by omega
  have hb10 : n - L = K := by omega
  have hb11 : (L : Int) ≤ (n : Int) := by omega
  clear hcm hcs htk hdl hH1 hpl hcl h hxl h1 hg hI hz0 hz1 hz2 hH2 HL HK
  go_enter Tryz.func107, Tryz.ntmps107
  go_wp2_with fail
  go_region_law (refine step_append_run rfl (.tmp 22) (.tmp 25) 102 102 rfl (.slice (some ⟨g, 0, none⟩) i cap) (.slice (some A) (n - j) (cap - j)) (by simp [Act.eval, Act.put]) (by simp [Act.eval, Act.put]) (hap _ _) ?_)
  go_wp2_with (at_builtin; refine wpList_clear_run _ rfl (.tmp 31) 102 rfl _ rfl (hclr _ _) ?_)
  go_ret
  exact ⟨_, rfl, HE.out.1, HE.out.2, rfl⟩
end Go.Proofs.YtjndgekpdmlbiaaGreatDoor.Wl
namespace Go.Proofs.YtjndgekpdmlbiaaGreatDoor.Wl
open Go.RowKit Dk

theorem cellsK_take (rs : List Re) (k : Nat) : (cellsK rs).take (k * 2) = cellsK (rs.take k) := by
  by_cases h : k ≤ rs.length
  · have e : rs = rs.take k ++ rs.drop k := by simp
    have hl : (cellsK (rs.take k)).length = k * 2 := by rw [cellsK_len, List.length_take, Nat.min_eq_left h]
    conv => lhs; rw [e, cellsK_append]
    rw [← hl, List.take_left]
  · rw [List.take_of_length_le (by rw [cellsK_len]; omega), List.take_of_length_le (by omega)]
theorem cellsK_drop (rs : List Re) (k : Nat) : (cellsK rs).drop (k * 2) = cellsK (rs.drop k) := by
  by_cases h : k ≤ rs.length
  · have e : rs = rs.take k ++ rs.drop k := by simp
    have hl : (cellsK (rs.take k)).length = k * 2 := by rw [cellsK_len, List.length_take, Nat.min_eq_left h]
    conv => lhs; rw [e, cellsK_append]
    rw [← hl, List.drop_left]
  · rw [List.drop_eq_nil_of_le (by rw [cellsK_len]; omega), List.drop_eq_nil_of_le (by omega)]
    rfl
theorem Lg.ones {w : World} {p pd : Nat} {first : Int} {vr : Value} {rs : List Re} {G : Nat → Prop} (h : Lg w p pd first vr rs G) : ∀ u ∈ cellsK rs, u.oneCell' = true := by
  intro u hu
  simp only [cellsK, List.mem_flatMap, Re.cells, List.mem_cons, List.not_mem_nil, or_false] at hu
  obtain ⟨r, hr, rfl | rfl⟩ := hu
  · obtain ⟨ao, cap, e, _, _⟩ := (h.data r hr).sl.shape
    rw [e]
    rfl
  · rfl

/-- A log whose row has been written anew in its place. -/
theorem Lg.redo2 {w wz : World} {p pd : Nat} {first first' : Int} {vr vr' : Value} {rs rs' : List Re} {G : Nat → Prop} (h : Lg w p pd first vr rs G) (hF : Dk.Fr (fun k => k = p ∨ vr.ownBlock = some k) w wz) (hO : wz.ownsRow 0 161 2 vr' rs'.length (cellsK rs')) (hob : vr'.ownBlock = vr.ownBlock)
    (hp : wz.heap[p]? = some (.cells #[.pointer (some ⟨pd, 0, none⟩), .int .i64 first', vr'] 104 (0, 0))) (hsub : ∀ r ∈ rs', ∃ r0 ∈ rs, r.dv = r0.dv ∧ r.data = r0.data)
    (hfins : ∀ i (hi : i < rs'.length), rs'[i].fin = (fileB first' ((rs'.map Re.data).take (i + 1))).length) (hzero : rs' = [] → first' = 0) (hfit : 0 ≤ first' ∧ first' + rs'.length ≤ 9223372036854775808) :
    Lg wz p pd first' vr' rs' G ∧ Dk.Fr (fun k => G k ∨ k = p) w wz := by
  refine ⟨⟨hp, hO, fun r hr => ?_, fun r hr a m c e => ?_, fun k hk => h.rowIn k (hob ▸ hk), fun k hk => Nat.lt_of_lt_of_le (h.lt k hk) hF.size, h.np, hfins, hzero, hfit⟩, hF.mono (fun k _ hk => ?_)⟩
  · obtain ⟨r0, hr0, e1, e2⟩ := hsub r hr
    rw [e1, e2]
    have hv := h.data r0 hr0
    have h1 : SlA w r0.dv r0.data (fun k => k = p ∨ vr.ownBlock = some k) := ⟨hv.sl, fun a n c e hH => by
      rcases hH with hH | hH
      · exact hv.away a n c e (fun hEa => h.np (hH ▸ hEa))
      · exact h.away r0 hr0 a n c e hH⟩
    exact ⟨(h1.kept hF).sl, hv.away⟩
  · obtain ⟨r0, hr0, e1, e2⟩ := hsub r hr
    rw [hob]
    exact h.away r0 hr0 a m c (e1 ▸ e)
  · rcases hk with rfl | hk
    · exact Or.inr rfl
    · exact Or.inl (h.rowIn k hk)
theorem Lg.redo {w w1 wz : World} {p pd : Nat} {first first' : Int} {vr vr' : Value} {rs rs' : List Re} {G : Nat → Prop} (h : Lg w p pd first vr rs G) (hg : w.grownBy w1 vr.ownBlock) (hO : w1.ownsRow 0 161 2 vr' rs'.length (cellsK rs')) (hob : vr'.ownBlock = vr.ownBlock)
    (hp : wz.heap[p]? = some (.cells #[.pointer (some ⟨pd, 0, none⟩), .int .i64 first', vr'] 104 (0, 0))) (hfz : Dk.Fr (fun k => k = p) w1 wz) (hsub : ∀ r ∈ rs', ∃ r0 ∈ rs, r.dv = r0.dv ∧ r.data = r0.data)
    (hfins : ∀ i (hi : i < rs'.length), rs'[i].fin = (fileB first' ((rs'.map Re.data).take (i + 1))).length) (hzero : rs' = [] → first' = 0) (hfit : 0 ≤ first' ∧ first' + rs'.length ≤ 9223372036854775808) :
    Lg wz p pd first' vr' rs' G ∧ Dk.Fr (fun k => G k ∨ k = p) w wz :=
  h.redo2 ((Fr.of_grown hg (fun _ hk => Or.inr hk)).trans hfz (fun _ _ e => Or.inl e)) (own_kept hO hfz (fun k hk e => h.np (e ▸ h.rowIn k (hob ▸ hk)))) hob hp hsub hfins hzero hfit

set_option maxHeartbeats 2000000 in
set_option maxRecDepth 20000 in
theorem dropBack_any (p pd : Nat) (first : Int) (vr : Value) (rs : List Re) (G : Nat → Prop) (k : Nat) (w : World) (h : Lg w p pd first vr rs G) (hk : k < rs.length) (hl : rs.length ≤ 1000000000) :
    Calls Tryz.prog 80 #[.pointer (some ⟨p, 0, none⟩), .int .i64 (k : Int)] w fun e w' => e = .returned (.tuple #[]) ∧ Hid ((∃ vr', Lg w' p pd (if k = 0 then 0 else first) vr' (rs.take k) G) ∧ Dk.Fr (fun k => G k ∨ k = p) w w') := by
  have hones := h.ones
  obtain ⟨f', Hf'⟩ : ∃ f', Hid (f' = if k = 0 then 0 else first) := ⟨if k = 0 then 0 else first, (rfl : _ = _)⟩
  rw [← Hf'.out]
  have HK : Hid (∀ m, Calls Tryz.prog 107 #[vr, .int .i64 (k : Int), .int .i64 (rs.length : Int)] (w.drewN m).drew fun e w1 => ∃ ao L cap, e = .returned (.slice ao L cap) ∧ (∃ u, w1.cell? ⟨p, 2, none⟩ = some u) ∧ (∃ u, (w1.setCell ⟨p, 2, none⟩ (.slice ao L cap)).cell? ⟨p, 1, none⟩ = some u) ∧ w1.frozen? ⟨p, 2, none⟩ = false ∧ (w1.setCell ⟨p, 2, none⟩ (.slice ao L cap)).frozen? ⟨p, 1, none⟩ = false ∧ Hid (∀ wz, wz = (if k = 0 then (w1.setCell ⟨p, 2, none⟩ (.slice ao L cap)).setCell ⟨p, 1, none⟩ (.int .i64 0) else w1.setCell ⟨p, 2, none⟩ (.slice ao L cap)) → (∃ vr', Lg wz p pd f' vr' (rs.take k) G) ∧ Dk.Fr (fun k => G k ∨ k = p) w wz)) := by
    intro m
    have hbd : Below w.heap.size w (w.drewN m).drew := ⟨rfl, rfl, rfl, Nat.le_refl _, fun _ _ => rfl⟩
    have hd := h.below hbd
    refine (delete_recs vr rs.length k rs.length (cellsK rs) (w.drewN m).drew hd.row hk (Nat.le_refl _) hl hones).mono ?_
    rintro e w1 ⟨v', rfl, hO, hg, hob⟩
    obtain ⟨ao, L, cap, rfl⟩ := own_slice hO
    have hcs : (cellsK rs).take (k * 2) ++ (cellsK rs).drop (rs.length * 2) = cellsK (rs.take k) := by
      rw [cellsK_take, List.drop_eq_nil_of_le (by rw [cellsK_len]; omega), List.append_nil]
    rw [hcs] at hO
    have hln : rs.length - (rs.length - k) = (rs.take k).length := by rw [List.length_take]; omega
    rw [hln] at hO
    have hp1 : w1.heap[p]? = some (.cells #[.pointer (some ⟨pd, 0, none⟩), .int .i64 first, vr] 104 (0, 0)) := by
      rw [hg.block p h.plt (fun e => h.np (h.rowIn p e.symm))]
      exact h.heap
    have hp2 : (w1.setCell ⟨p, 2, none⟩ (.slice ao L cap)).heap[p]? = some (.cells #[.pointer (some ⟨pd, 0, none⟩), .int .i64 first, .slice ao L cap] 104 (0, 0)) := by
      rw [heap_set hp1]; rfl
    refine ⟨ao, L, cap, rfl, ⟨_, by rw [cell_of_row w1 p 2 _ _ _ hp1]; rfl⟩, ⟨_, by rw [cell_of_row _ p 1 _ _ _ hp2]; rfl⟩, by simp [World.frozen?, hp1], by simp [World.frozen?, hp2], ?_⟩
    rintro wz rfl
    have hf' := Hf'.out
    have hfits := h.fit
    have hsub : ∀ r ∈ rs.take k, ∃ r0 ∈ rs, r.dv = r0.dv ∧ r.data = r0.data := fun r hr => ⟨r, List.mem_of_mem_take hr, rfl, rfl⟩
    have hfinsT : ∀ i (hi : i < (rs.take k).length), (rs.take k)[i].fin = (fileB first (((rs.take k).map Re.data).take (i + 1))).length := by
      intro i hi
      have hik : i < k := by rw [List.length_take] at hi; omega
      rw [List.getElem_take, h.fins i (by omega), List.map_take, List.take_take, Nat.min_eq_left (by omega)]
    have hgw : w.grownBy w1 vr.ownBlock := ⟨hg.os, hg.tape, hg.output, hg.size, hg.block⟩
    by_cases hk0 : k = 0
    · rw [if_pos hk0] at hf' ⊢
      subst hf'
      obtain ⟨a1, a2⟩ := h.redo (wz := (w1.setCell ⟨p, 2, none⟩ (.slice ao L cap)).setCell ⟨p, 1, none⟩ (.int .i64 0)) (first' := 0) hgw hO hob (by rw [heap_set hp2]; rfl) ((Fr.one _ _ _ _).trans (Fr.one _ _ _ _) (fun _ _ e => e)) hsub (by subst hk0; intro i hi; simp at hi) (fun _ => rfl) ⟨Int.le_refl _, by rw [hk0]; simp⟩
      exact ⟨⟨_, a1⟩, a2⟩
    · rw [if_neg hk0] at hf' ⊢
      subst hf'
      obtain ⟨a1, a2⟩ := h.redo (wz := w1.setCell ⟨p, 2, none⟩ (.slice ao L cap)) (first' := f') hgw hO hob hp2 (Fr.one _ _ _ _) hsub hfinsT (fun e => by have hz := congrArg List.length e; rw [List.length_take, List.length_nil] at hz; omega) ⟨hfits.1, by rw [List.length_take]; omega⟩
      exact ⟨⟨_, a1⟩, a2⟩
  obtain ⟨c0, c1, c2, cz⟩ := h.cells
  obtain ⟨ao0, cap0, rfl, _⟩ := h.shape
  clear hones h
  have HD : Hid (∀ m, (w.drewN m).drew.cell? ⟨p, 2, none⟩ = some (.slice ao0 rs.length cap0)) := fun m => c2
  have HKm : Hid (_) := HK.out 0
  have HDm := HD.out 0
  change w.drew.cell? _ = _ at HDm
  generalize rs.length = N at *
  by_cases hk0 : k = 0
  · subst hk0
    go_enter Tryz.func80, Tryz.ntmps80
    go_wp2_with fail
    go_region_with (go_at_call 107; refine Calls.mono HKm.out ?_; rintro e w1 ⟨ao, L, cap, rfl, ⟨u1, d1⟩, ⟨u2, d2⟩, d3, d4, HX⟩)
    all_goals go_wp2
    all_goals go_end0
    all_goals exact ⟨rfl, HX.out _ (by simp)⟩
  · have hne : ((k : Int) == 0) = false := by rw [beq_eq_false_iff_ne]; omega
    go_enter Tryz.func80, Tryz.ntmps80
    go_wp2_with fail
    go_region_with (go_at_call 107; refine Calls.mono HKm.out ?_; rintro e w1 ⟨ao, L, cap, rfl, ⟨u1, d1⟩, ⟨u2, d2⟩, d3, d4, HX⟩)
    all_goals go_wp2
    all_goals go_end0
    all_goals exact ⟨rfl, HX.out _ (by simp [hk0])⟩
end Go.Proofs.YtjndgekpdmlbiaaGreatDoor.Wl
namespace Go.Proofs.YtjndgekpdmlbiaaGreatDoor.Wl
open Go.RowKit Dk

def shiftR (b : Nat) (r : Re) : Re := ⟨r.dv, r.data, r.fin - b⟩
def sh (b k : Nat) (xs : List Re) : List Re := (xs.take k).map (shiftR b) ++ xs.drop k
theorem sh_zero (b : Nat) (xs : List Re) : sh b 0 xs = xs := by simp [sh]
theorem sh_all (b : Nat) (xs : List Re) : sh b xs.length xs = xs.map (shiftR b) := by simp [sh]
theorem sh_len (b k : Nat) (xs : List Re) : (sh b k xs).length = xs.length := by simp [sh]; omega
theorem sh_at (b k : Nat) (xs : List Re) (hk : k < xs.length) : (cellsK (sh b k xs))[k * 2 + 1]? = some (.int .i64 (xs[k].fin : Int)) := by
  have e : xs.drop k = xs[k] :: xs.drop (k + 1) := List.drop_eq_getElem_cons hk
  have hl : ((xs.take k).map (shiftR b)).length = k := by simp; omega
  have := (cellsK_at ((xs.take k).map (shiftR b)) xs[k] (xs.drop (k + 1))).2
  rw [hl] at this
  unfold sh
  rw [e]
  exact this
theorem sh_succ (b k : Nat) (xs : List Re) (hk : k < xs.length) : (cellsK (sh b k xs)).set (k * 2 + 1) (.int .i64 ((xs[k].fin - b : Nat) : Int)) = cellsK (sh b (k + 1) xs) := by
  have e : xs.drop k = xs[k] :: xs.drop (k + 1) := List.drop_eq_getElem_cons hk
  have hl : (cellsK ((xs.take k).map (shiftR b))).length = k * 2 := by rw [cellsK_len]; simp; omega
  unfold sh
  rw [e, cellsK_append, cellsK_cons, List.set_append_right _ _ (by omega), hl, Nat.add_sub_cancel_left, take_succ_snoc xs k xs[k] (List.getElem?_eq_getElem hk), List.map_append, List.append_assoc, cellsK_append]
  rfl

theorem fileB_split (first : Int) (ds : List (List UInt8)) (g : Nat) (hg : g ≤ ds.length) : fileB first ds = fileB first (ds.take g) ++ fileB (first + g) (ds.drop g) := by
  conv => lhs; rw [← List.take_append_drop g ds]
  rw [fileB_append, List.length_take, Nat.min_eq_left hg]

theorem fins_drop {first : Int} {rs : List Re} (h : ∀ i (hi : i < rs.length), rs[i].fin = (fileB first ((rs.map Re.data).take (i + 1))).length) (g : Nat) (hg : g ≤ rs.length) :
    ∀ i (hi : i < ((rs.drop g).map (shiftR (sizeK first rs g))).length), (((rs.drop g).map (shiftR (sizeK first rs g))))[i].fin = (fileB (first + g) ((((rs.drop g).map (shiftR (sizeK first rs g))).map Re.data).take (i + 1))).length := by
  intro i hi
  have hi' : g + i < rs.length := by simp at hi; omega
  have hd : ((rs.drop g).map (shiftR (sizeK first rs g))).map Re.data = (rs.map Re.data).drop g := by
    rw [List.map_map, List.map_drop]
    rfl
  rw [hd, List.getElem_map, List.getElem_drop]
  simp only [shiftR]
  rw [h (g + i) hi']
  unfold sizeK
  have hs := fileB_split first ((rs.map Re.data).take (g + i + 1)) g (by rw [List.length_take, List.length_map]; omega)
  rw [hs, List.length_append, List.take_take, Nat.min_eq_left (by omega), Nat.add_sub_cancel_left, List.drop_take]
  rw [show g + i + 1 - g = i + 1 by omega]

/-- The row while the ends are made less. -/
def DF (w wr : World) (p pd : Nat) (first : Int) (v' : Value) (ob : Option Nat) (xs : List Re) (b k : Nat) : Prop :=
  wr.heap[p]? = some (.cells #[.pointer (some ⟨pd, 0, none⟩), .int .i64 first, v'] 104 (0, 0)) ∧ wr.ownsRow 0 161 2 v' xs.length (cellsK (sh b k xs)) ∧ Dk.Fr (fun k => k = p ∨ ob = some k) w wr

set_option maxHeartbeats 4000000 in
set_option maxRecDepth 20000 in
theorem dropFront_any (p pd : Nat) (first : Int) (vr : Value) (rs : List Re) (G : Nat → Prop) (k : Nat) (w : World) (h : Lg w p pd first vr rs G) (h0 : 0 < k) (hk : k ≤ rs.length) (hl : rs.length ≤ 1000000000) (hfl : (fileB first (rs.map Re.data)).length ≤ 1000000000) (hfit : first + rs.length ≤ 9223372036854775807) :
    Calls Tryz.prog 112 #[.pointer (some ⟨p, 0, none⟩), .int .i64 (k : Int)] w fun e w' => e = .returned (.tuple #[]) ∧ Hid ((∃ vr' rs', Lg w' p pd (if k = rs.length then 0 else first + k) vr' rs' G ∧ rs'.map Re.data = (rs.map Re.data).drop k) ∧ Dk.Fr (fun k => G k ∨ k = p) w w') := by
  have hones := h.ones
  have hf0 := h.fit.1
  have HE : Hid (_) := endOf_any p pd first vr rs G k w h hk hl
  obtain ⟨b, Hb⟩ : ∃ b, Hid (b = sizeK first rs k) := ⟨sizeK first rs k, (rfl : _ = _)⟩
  rw [← Hb.out] at HE
  have hbb : b ≤ 1000000000 := by
    rw [Hb.out]
    unfold sizeK
    have := fileB_split first (rs.map Re.data) k (by rw [List.length_map]; exact hk)
    have h2 := congrArg List.length this
    rw [List.length_append] at h2
    omega
  obtain ⟨xs, HX⟩ : ∃ xs, Hid (xs = rs.drop k) := ⟨rs.drop k, (rfl : _ = _)⟩
  have hxl : xs.length = rs.length - k := by rw [HX.out, List.length_drop]
  have HFin : Hid (∀ i (hi : i < xs.length), b ≤ xs[i].fin ∧ xs[i].fin ≤ 1000000000) := by
    intro i hi
    have e0 := HX.out
    subst e0
    rw [List.length_drop] at hi
    rw [List.getElem_drop, h.fins (k + i) (by omega), Hb.out]
    unfold sizeK
    have h1 := congrArg List.length (fileB_split first ((rs.map Re.data).take (k + i + 1)) k (by rw [List.length_take, List.length_map]; omega))
    rw [List.length_append, List.take_take, Nat.min_eq_left (by omega)] at h1
    have h2 := congrArg List.length (fileB_split first (rs.map Re.data) (k + i + 1) (by rw [List.length_map]; omega))
    rw [List.length_append] at h2
    omega
  have HEnd : Hid (∀ wr v' wz f', DF w wr p pd first v' vr.ownBlock xs b xs.length → v'.ownBlock = vr.ownBlock → wz = wr.setCell ⟨p, 1, none⟩ (.int .i64 f') → f' = (if k = rs.length then 0 else first + k) → (∃ vr' rs', Lg wz p pd (if k = rs.length then 0 else first + k) vr' rs' G ∧ rs'.map Re.data = (rs.map Re.data).drop k) ∧ Dk.Fr (fun k => G k ∨ k = p) w wz) := by
    rintro wr v' wz f' ⟨d1, d2, d3⟩ hob rfl hf'
    rw [← hf']
    have hone := Fr.one wr p 1 (.int .i64 f')
    have hnp : ∀ k, v'.ownBlock = some k → ¬ k = p := fun k hk e => h.np (e ▸ h.rowIn k (hob ▸ hk))
    rw [sh_all] at d2
    have d2' : (wr.setCell ⟨p, 1, none⟩ (.int .i64 f')).ownsRow 0 161 2 v' (xs.map (shiftR b)).length (cellsK (xs.map (shiftR b))) := by
      rw [List.length_map]
      exact own_kept d2 hone hnp
    have hdm : (xs.map (shiftR b)).map Re.data = (rs.map Re.data).drop k := by
      rw [HX.out, List.map_map, List.map_drop]
      rfl
    obtain ⟨a1, a2⟩ := h.redo2 (wz := wr.setCell ⟨p, 1, none⟩ (.int .i64 f')) (first' := f') (rs' := xs.map (shiftR b)) (d3.trans hone (fun k _ e => Or.inl e)) d2' hob (by rw [heap_set d1]; rfl) (fun r hr => by
        obtain ⟨r0, hr0, rfl⟩ := List.mem_map.1 hr
        rw [HX.out] at hr0
        exact ⟨r0, List.mem_of_mem_drop hr0, rfl, rfl⟩) (by
        by_cases hkl : k = rs.length
        · intro i hi
          rw [List.length_map, hxl] at hi
          omega
        · rw [if_neg hkl] at hf'
          subst hf'
          have hh := fins_drop h.fins k hk
          rw [← Hb.out, ← HX.out] at hh
          exact hh) (fun e => by
        have hz := congrArg List.length e
        rw [List.length_map, hxl, List.length_nil] at hz
        rw [hf', if_pos (by omega)]) (by
        rw [List.length_map, hxl, hf']
        split
        · exact ⟨Int.le_refl _, by omega⟩
        · exact ⟨by omega, by omega⟩)
    exact ⟨⟨_, _, a1, hdm⟩, a2⟩
  have HK : Hid (Calls Tryz.prog 107 #[vr, .int .i64 0, .int .i64 (k : Int)] w fun e w1 => ∃ ao cap, e = .returned (.slice ao xs.length cap) ∧ (∃ u, w1.cell? ⟨p, 2, none⟩ = some u) ∧ w1.frozen? ⟨p, 2, none⟩ = false ∧ (w1.setCell ⟨p, 2, none⟩ (.slice ao xs.length cap)).cell? ⟨p, 2, none⟩ = some (.slice ao xs.length cap) ∧ Hid (DF w (w1.setCell ⟨p, 2, none⟩ (.slice ao xs.length cap)) p pd first (.slice ao xs.length cap) vr.ownBlock xs b 0 ∧ (Value.slice ao xs.length cap).ownBlock = vr.ownBlock)) := by
    refine (delete_recs vr rs.length 0 k (cellsK rs) w h.row h0 hk hl hones).mono ?_
    rintro e w1 ⟨v', rfl, hO, hg, hob⟩
    rw [Nat.zero_mul, List.take_zero, List.nil_append, cellsK_drop, ← HX.out, Nat.sub_zero, ← hxl] at hO
    obtain ⟨ao, cap, rfl⟩ : ∃ ao cap, v' = .slice ao xs.length cap := by
      rcases own_shape hO with ⟨rfl, e⟩ | ⟨g, cap, rfl, _⟩
      · exact ⟨none, 0, by rw [e]⟩
      · exact ⟨_, _, rfl⟩
    have hp1 : w1.heap[p]? = some (.cells #[.pointer (some ⟨pd, 0, none⟩), .int .i64 first, vr] 104 (0, 0)) := by
      rw [hg.block p h.plt (fun e => h.np (h.rowIn p e.symm))]
      exact h.heap
    have hp2 : (w1.setCell ⟨p, 2, none⟩ (.slice ao xs.length cap)).heap[p]? = some (.cells #[.pointer (some ⟨pd, 0, none⟩), .int .i64 first, .slice ao xs.length cap] 104 (0, 0)) := by
      rw [heap_set hp1]; rfl
    have hone := Fr.one w1 p 2 (.slice ao xs.length cap)
    refine ⟨ao, cap, rfl, ⟨_, by rw [cell_of_row w1 p 2 _ _ _ hp1]; rfl⟩, by simp [World.frozen?, hp1], by rw [cell_of_row _ p 2 _ _ _ hp2]; rfl, ⟨hp2, ?_, (Fr.of_grown hg (fun k hk => Or.inr hk)).trans hone (fun k _ e => Or.inl e)⟩, hob⟩
    rw [sh_zero]
    exact own_kept hO hone (fun k hk e => h.np (e ▸ h.rowIn k (hob ▸ hk)))
  obtain ⟨c0, c1, c2, cz⟩ := h.cells
  obtain ⟨ob, Hob⟩ : ∃ ob, Hid (ob = vr.ownBlock) := ⟨vr.ownBlock, (rfl : _ = _)⟩
  rw [← Hob.out] at HEnd HK
  obtain ⟨ao0, cap0, rfl, _⟩ := h.shape
  have hkM : (k = rs.length) ↔ xs.length = 0 := by omega
  simp only [hkM] at HEnd ⊢
  have hkb : (k : Int) ≤ 1000000000 := by omega
  have hMl : xs.length ≤ 1000000000 := by omega
  have hnp : ∀ g, ob = some g → g ≠ p := fun g hg e => h.np (e ▸ h.rowIn g (by rw [← Hob.out]; exact hg))
  have hfk : first + (k : Int) ≤ 9223372036854775807 := by omega
  obtain ⟨PP, HPP⟩ : ∃ PP : World → Prop, Hid (PP = fun wz => (∃ vr' rs', Lg wz p pd (if xs.length = 0 then 0 else first + k) vr' rs' G ∧ rs'.map Re.data = (rs.map Re.data).drop k) ∧ Dk.Fr (fun k => G k ∨ k = p) w wz) := ⟨_, (rfl : _ = _)⟩
  suffices HS : Calls Tryz.prog 112 #[.pointer (some ⟨p, 0, none⟩), .int .i64 (k : Int)] w fun e w' => e = .returned (.tuple #[]) ∧ Hid (PP w') by
    refine HS.mono ?_
    rintro e w' ⟨h1, h2⟩
    refine ⟨h1, ?_⟩
    have h3 := h2.out
    rw [HPP.out] at h3
    exact h3
  have HEnd' : Hid (∀ wr v' wz f', DF w wr p pd first v' ob xs b xs.length → v'.ownBlock = ob → wz = wr.setCell ⟨p, 1, none⟩ (.int .i64 f') → f' = (if xs.length = 0 then 0 else first + k) → PP wz) := by
    have h1 := HEnd.out
    rw [HPP.out]
    exact h1
  clear HEnd HPP hkM hones h hfl hfit HX hxl hk hl h0 Hb cz c0 Hob
  go_enter Tryz.func112, Tryz.ntmps112
  go_wp2_with (first
    | (go_at_call 77; refine Calls.mono HE.out ?_; rintro e w' ⟨rfl, hw⟩; have hw' := hw.symm; subst hw')
    | (go_at_call 107; refine Calls.mono HK.out ?_; rintro e w1 ⟨ao, cap, rfl, ⟨u1, d1⟩, d2, d3, HD⟩; clear HK))
  go_loopw [23] (fun vi wr => ∃ j : Nat, j ≤ xs.length ∧ vi = .int .i64 j ∧ Hid (DF w wr p pd first (.slice ao xs.length cap) ob xs b j)) (fun vi _ => xs.length - (intOf vi).toNat)
  case atStart => exact ⟨0, Nat.zero_le _, rfl, HD.out.1⟩
  case round =>
    obtain ⟨j, hj, rfl, HJ⟩ := hrel
    by_cases hlt : j < xs.length
    · have hlt' : (j : Int) < (xs.length : Int) := by omega
      obtain ⟨hb1, hb2⟩ := HFin.out j hlt
      obtain ⟨q1, q2, q3⟩ := HJ.out
      obtain ⟨g, rfl⟩ : ∃ g, ao = some ⟨g, 0, none⟩ := by
        rcases own_shape q2 with ⟨_, e⟩ | ⟨g, cap', e, _⟩
        · omega
        · simp at e; exact ⟨g, e.1⟩
      have e2 : wr.cell? ⟨p, 2, none⟩ = some (.slice (some ⟨g, 0, none⟩) xs.length cap) := by rw [cell_of_row _ p 2 _ _ _ q1]; rfl
      have e3 : wr.cell? ⟨g, j * 2 + 1, none⟩ = some (.int .i64 (xs[j].fin : Int)) := by rw [q2.cellAt _ (by omega)]; exact sh_at b j xs hlt
      have e4 := q2.frozenAt (j * 2 + 1)
      have hgp : g ≠ p := hnp g HD.out.2.symm
      have HN : Hid (DF w (wr.setCell ⟨g, j * 2 + 1, none⟩ (.int .i64 ((xs[j].fin - b : Nat) : Int))) p pd first (.slice (some ⟨g, 0, none⟩) xs.length cap) ob xs b (j + 1)) := by
        have hone := Fr.one wr g (j * 2 + 1) (.int .i64 ((xs[j].fin - b : Nat) : Int))
        refine ⟨?_, ?_, q3.trans hone (fun k _ e => Or.inr (by rw [e]; exact HD.out.2.symm))⟩
        · rw [hone.block p (Array.getElem?_eq_some_iff.1 q1).1 (fun e => hgp e.symm)]
          exact q1
        · have h1 := (q2.stored (j * 2 + 1) (.int .i64 ((xs[j].fin - b : Nat) : Int))).1
          rw [sh_succ b j xs hlt] at h1
          exact h1
      have hsub : ((xs[j].fin - b : Nat) : Int) = (xs[j].fin : Int) - (b : Int) := by omega
      rw [hsub] at HN
      generalize xs[j].fin = fn at *
      clear q1 q2 q3 HJ hsub HEnd'
      go_wp2
      go_roundw
      case rel => exact ⟨j + 1, by omega, by go_num, HN.out⟩
      case measure => simp [intOf]; omega
    · obtain rfl : j = xs.length := by omega
      have q1 := HJ.out.1
      have e1 : wr.cell? ⟨p, 1, none⟩ = some (.int .i64 first) := by rw [cell_of_row _ p 1 _ _ _ q1]; rfl
      have e2 : wr.cell? ⟨p, 2, none⟩ = some (.slice ao xs.length cap) := by rw [cell_of_row _ p 2 _ _ _ q1]; rfl
      have e4 : wr.frozen? ⟨p, 1, none⟩ = false := by simp [World.frozen?, q1]
      have HZ : Hid (∀ wz f', wz = wr.setCell ⟨p, 1, none⟩ (.int .i64 f') → f' = (if xs.length = 0 then 0 else first + k) → PP wz) := fun wz f' => HEnd'.out wr _ wz f' HJ.out HD.out.2
      clear HJ HD HEnd' HFin q1
      by_cases hz : xs.length = 0
      · simp only [hz] at HZ e2 ⊢
        go_wp2
        exact bodyPost_ret (v := .tuple #[]) (by simp [results, Tryz.results112, go_sem]) rfl ⟨rfl, HZ.out _ _ rfl rfl⟩
      · have hne : ((xs.length : Int) == 0) = false := by rw [beq_eq_false_iff_ne]; omega
        go_wp2
        go_end0
        exact ⟨rfl, HZ.out _ _ rfl (by rw [if_neg hz])⟩
end Go.Proofs.YtjndgekpdmlbiaaGreatDoor.Wl

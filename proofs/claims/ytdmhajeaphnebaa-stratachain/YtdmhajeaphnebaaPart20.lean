/- A row of names that is cut at its front and lengthened at its end. No walk. The reference's Recursive: its walk. begun's walk. The chain's strata: in plain mathematics. The chain: who comes back; how many names there are: in plain mathematics. -/
import Derived.Test.YtdmhajeaphnebaaPart18
import Derived.Test.YtdmhajeaphnebaaPart19
import Derived.ArgAppend
import Derived.Deep.LoopGhost
import Derived.Deep.CutRange
import Derived.Test.YtdmhajeaphnebaaPart11
namespace Go.Proofs.Ytdmhajeaphnebaa.Gr
open Go.RowKit
open Vl (Fr)
variable {w w' : World} {v : Value} {L : List ByteArray} {g : Nat}
def Qe (w : World) (v : Value) (L : List ByteArray) (g : Nat) : Prop := ∃ o cap cur, v = .slice (some ⟨g, o, none⟩) L.length cap ∧ w.heap[g]? = some (.cells cur 9 (0, 0)) ∧ o + cap ≤ cur.size ∧ L.length ≤ cap ∧ cap ≤ maxLen ∧ ∀ j (h : j < L.length), cur[o + j]? = some (.string L[j])
theorem Qe.fr {F : Nat → Prop} (h : Qe w v L g) (hf : Fr F w w') (hg : ¬ F g) : Qe w' v L g := by
  obtain ⟨o, cap, cur, h1, h2, h3⟩ := h
  exact ⟨o, cap, cur, h1, (hf.block g (Array.getElem?_eq_some_iff.1 h2).1 hg).trans h2, h3⟩
theorem Qe.below (h : Qe w v L g) (hb : Below w.heap.size w w') : Qe w' v L g := h.fr (Fr.of_below (F := fun _ => False) hb) id
theorem Qe.lt (h : Qe w v L g) : g < w.heap.size := by
  obtain ⟨o, cap, cur, h1, h2, h3⟩ := h
  exact (Array.getElem?_eq_some_iff.1 h2).1
theorem Qe.new (w : World) (x : ByteArray) : Qe (w.alloc (.cells #[.string x] 9)) (.slice (some ⟨w.heap.size, 0, none⟩) 1 1) [x] w.heap.size :=
  ⟨0, 1, _, rfl, heap_alloc_new _ _, by simp, Nat.le_refl _, by decide, fun j h => by
    have : j = 0 := by simpa using h
    subst this
    rfl⟩
theorem Qe.pop {x : ByteArray} {r : List ByteArray} (h : Qe w v (x :: r) g) : ∃ o cap v', v = .slice (some ⟨g, o, none⟩) (r.length + 1) cap ∧ w.cell? ⟨g, o, none⟩ = some (.string x) ∧ (∀ W, (Instr.slice 32 v (some (.int .i64 1)) none none).run Try.prog W = .ok v' W) ∧ Qe w v' r g ∧ (∃ ao c, v' = .slice ao r.length c) ∧ 1 ≤ cap := by
  obtain ⟨o, cap, cur, rfl, h2, h3, h4, h5, h6⟩ := h
  simp only [List.length_cons] at h4 h6
  have hx := h6 0 (by omega)
  refine ⟨o, cap, .slice (some (if cap = 1 then ⟨g, o, none⟩ else ⟨g, o + 1, none⟩)) r.length (cap - 1), rfl, ?_, fun W => ?_, ?_, ⟨_, _, rfl⟩, by omega⟩
  · rw [cell_of_row _ _ o _ _ _ h2]
    simpa using hx
  · rw [run_slice_l W 32 (some ⟨g, o, none⟩) (x :: r).length cap elem32 .i64 1 (by omega) (by simp only [List.length_cons]; omega), size32]
    simp only [Result.andThen, sliced, List.length_cons]
    have e : (1 : Int).toNat = 1 := rfl
    rw [e]
    by_cases hc : cap = 1
    · rw [if_pos hc, if_pos hc]
      simp
    · rw [if_neg hc, if_neg hc]
      simp [Addr.add_lit]
  · by_cases hc : cap = 1
    · rw [if_pos hc]
      have hr : r = [] := List.eq_nil_of_length_eq_zero (by omega)
      subst hr
      exact ⟨o, cap - 1, cur, rfl, h2, by omega, by simp, by omega, fun j hj => by simp at hj⟩
    · rw [if_neg hc]
      refine ⟨o + 1, cap - 1, cur, rfl, h2, by omega, by omega, by omega, fun j hj => ?_⟩
      have := h6 (j + 1) (by omega)
      have e : o + 1 + j = o + (j + 1) := by omega
      rw [e]
      simpa using this
theorem Qe.push (h : Qe w v L g) (x : ByteArray) (hl : L.length ≤ 1000) : ∃ g' ao c w3, (∀ ty, (Builtin.append_ #[32, 32] ty #[v, .slice (some ⟨w.heap.size, 0, none⟩) 1 1]).run Try.prog (w.alloc (.cells #[.string x] 9)) = .ok (.slice ao (L.length + 1) c) w3) ∧ Qe w3 (.slice ao (L.length + 1) c) (L ++ [x]) g' ∧ Fr (fun k => k = g) w w3 ∧ (g' = g ∨ w.heap.size ≤ g') := by
  obtain ⟨i, hi, hz, hsize, hby⟩ := info_parts Vl.Try.info9
  have hlt := h.lt
  obtain ⟨o, cap, cur, rfl, h2, h3, h4, h5, h6⟩ := h
  have hA : Below w.heap.size w (w.alloc (.cells #[.string x] 9)) := (Below.refl _ _).alloc (Nat.le_refl _) _
  have hg : (w.alloc (.cells #[.string x] 9)).heap[g]? = some (.cells cur 9 (0, 0)) := (hA.block g hlt).trans h2
  have hnew : ∀ j u, [Value.string x][j]? = some u → (w.alloc (.cells #[.string x] 9)).cell? (Addr.add ⟨w.heap.size, 0, none⟩ j) = some u := fun j u hj => by
    rw [Addr.add_lit, Nat.zero_add, cell_of_row _ _ j _ _ _ (heap_alloc_new _ _)]
    simpa using hj
  have hel : (L ++ [x]).length = L.length + 1 := by simp
  by_cases hroom : L.length + 1 ≤ cap
  · have hr := fun ty => run_append_room_cells (P := Try.prog) (w.alloc (.cells #[.string x] 9)) 32 ty 9 i Try.underlying32 hi g o L.length cap ⟨w.heap.size, 0, none⟩ 1 1 [.string x] (by simp [hsize]) hnew (by simp [Value.oneCell']) hroom (fun j hj => by
      have : j = 0 := by simpa using hj
      subst this
      rw [cell_of_row _ _ _ _ _ _ hg, hsize, Nat.mul_one, Nat.add_zero]
      rw [Array.getElem?_eq_getElem (by omega)]
      rfl) (fun j _ => frozen_of_row _ _ _ _ _ hg)
    rw [hsize, Nat.mul_one] at hr
    refine ⟨g, some ⟨g, o, none⟩, cap, _, hr, ?_, ?_, .inl rfl⟩
    · refine ⟨o, cap, cur.setIfInBounds (o + L.length) (.string x), by rw [hel], ?_, by simpa using h3, by rw [hel]; exact hroom, h5, fun j hj => ?_⟩
      · show ((w.alloc (.cells #[.string x] 9)).setCell ⟨g, o + L.length, none⟩ (.string x)).heap[g]? = _
        rw [Vl.heap_set hg]
      · rw [Array.getElem?_setIfInBounds]
        by_cases e : j = L.length
        · subst e
          rw [if_pos rfl, if_pos (by omega)]
          simp
        · rw [if_neg (by omega)]
          have hj' : j < L.length := by rw [hel] at hj; omega
          rw [List.getElem_append_left hj']
          exact h6 j hj'
    · exact ((Fr.refl (fun k => k = g) w).alloc _).trans (Vl.Fr.one _ _ _ _) (fun _ _ e => e)
  · have hfit : Builtin.nextslicecap (L.length + 1) cap * i.bytes ≤ 281474976710656 := growslice_fits (by omega) (by rw [hby]; omega)
    have hr := fun ty => run_append_grow (P := Try.prog) (w.alloc (.cells #[.string x] 9)) 32 ty 9 i (.string ⟨#[]⟩) Try.underlying32 hi hz ⟨g, o, none⟩ L.length cap (nmRow L) (by rw [nmRow_len, hsize, Nat.mul_one]) (fun j u hj => by
      have hj' : j < L.length := by
        have := (List.getElem?_eq_some_iff.1 hj).1
        rwa [nmRow_len] at this
      rw [Addr.add_lit, cell_of_row _ _ _ _ _ _ hg, h6 j hj']
      simpa [nmRow, hj'] using hj) ⟨w.heap.size, 0, none⟩ 1 1 [.string x] (by simp [hsize]) hnew (by omega) (by omega) hfit
    have h9 := grown_row (w.alloc (.cells #[.string x] 9)) (.string ⟨#[]⟩) rfl (L.length + 1) cap (nmRow L) [.string x] (by rw [List.length_append, nmRow_len]; rfl) (by omega)
    refine ⟨_, _, _, _, hr, ?_, (((Fr.refl (fun k => k = g) w).alloc _).drew.alloc _), .inr hA.size⟩
    rcases h9.2 with ⟨h0, _⟩ | ⟨g', cap', cur', e1, _, e3, e4, e5, e6, e7⟩
    · cases h0
    · simp only [Value.slice.injEq, Option.some.injEq, Addr.mk.injEq, and_true, true_and] at e1
      obtain ⟨rfl, rfl⟩ := e1
      refine ⟨0, _, cur', by rw [hel], e3, by omega, by rw [hel]; exact e4, e5, fun j hj => ?_⟩
      have h8 : (nmRow L ++ [.string x])[j]? = some (.string (L ++ [x])[j]) := by
        have : nmRow L ++ [.string x] = nmRow (L ++ [x]) := by simp [nmRow]
        rw [this]
        unfold nmRow
        rw [List.getElem?_map, List.getElem?_eq_getElem hj]
        rfl
      rw [← e7, List.getElem?_take, if_pos (by rw [hel] at hj; omega), Array.getElem?_toList] at h8
      rw [Nat.zero_add]
      exact h8
/-- The search in memory. -/
structure Rq (w0 w : World) (sv qv : Value) (seen wait : List ByteArray) (g : Nat) : Prop where
  s : w.ownsRow 0 9 1 sv seen.length (nmRow seen)
  q : Qe w qv wait g
  ap : sv.ownBlock ≠ some g
  z : Below w0.heap.size w0 w
  zs : ∀ k, sv.ownBlock = some k → w0.heap.size ≤ k
  zg : w0.heap.size ≤ g
variable {w0 : World} {sv qv : Value} {seen wait : List ByteArray}
theorem Rq.below (h : Rq w0 w sv qv seen wait g) (hb : Below w.heap.size w w') : Rq w0 w' sv qv seen wait g :=
  ⟨own_of_cell h.s (Fr.of_below (F := fun _ => False) hb) (fun _ hk => hk.elim), h.q.below hb, h.ap, h.z.trans (hb.mono h.z.size), h.zs, h.zg⟩
theorem Rq.push2 (h : Rq w0 w sv qv seen wait g) (x : ByteArray) (hs : seen.length ≤ 1000) (hw : wait.length ≤ 1000) : ∃ sg sc w3 g' qa qc w5,
    (∀ ty, (Builtin.append_ #[32, 32] ty #[sv, .slice (some ⟨w.heap.size, 0, none⟩) 1 1]).run Try.prog (w.alloc (.cells #[.string x] 9)) = .ok (.slice (some ⟨sg, 0, none⟩) (seen.length + 1) sc) w3) ∧
    (∀ ty, (Builtin.append_ #[32, 32] ty #[qv, .slice (some ⟨w3.heap.size, 0, none⟩) 1 1]).run Try.prog (w3.alloc (.cells #[.string x] 9)) = .ok (.slice qa (wait.length + 1) qc) w5) ∧
    Hid (Rq w0 w5 (.slice (some ⟨sg, 0, none⟩) (seen.length + 1) sc) (.slice qa (wait.length + 1) qc) (seen ++ [x]) (wait ++ [x]) g') ∧ Hid (Fr (fun k => sv.ownBlock = some k) w w3) := by
  obtain ⟨sg, sc, w3, hr, k1, k2, k3⟩ := push_row 32 9 1 16 _ Try.underlying32 Vl.Try.info9 rfl (by decide) (by decide) h.s [.string x] rfl (by simp [Value.oneCell']) (by omega)
  have hq3 := h.q.fr k2.out h.ap
  obtain ⟨g', qa, qc, w5, hr2, q5, f5, hg5⟩ := hq3.push x hw
  have hsz := k2.out.size
  have hsg : sg ≠ g := fun e => by
    rcases k3.out sg rfl with h1 | h1
    · rw [e] at h1; exact h.ap h1
    · have := h.q.lt; omega
  have hsl : sg < w3.heap.size := own_lt k1.out rfl
  have e1 : nmRow seen ++ [.string x] = nmRow (seen ++ [x]) := by simp [nmRow]
  refine ⟨sg, sc, w3, g', qa, qc, w5, hr, hr2, ⟨?_, q5, ?_, ?_, fun k hk => ?_, ?_⟩, k2.out⟩
  · have h1 := own_of_cell k1.out f5 (fun k hk hu => by subst hk; simp [Value.ownBlock] at hu; exact hsg hu)
    rw [e1] at h1
    simpa using h1
  · intro hu
    simp [Value.ownBlock] at hu
    rcases hg5 with h1 | h1
    · exact hsg (hu.trans h1)
    · omega
  · exact (h.z.trans (k2.out.below h.zs h.z.size)).trans (f5.below (fun k hk => by rw [hk]; exact h.zg) (Nat.le_trans h.z.size hsz))
  · simp [Value.ownBlock] at hk
    subst hk
    rcases k3.out sg rfl with h1 | h1
    · exact h.zs sg h1
    · exact Nat.le_trans h.z.size h1
  · rcases hg5 with h1 | h1
    · rw [h1]; exact h.zg
    · exact Nat.le_trans (Nat.le_trans h.z.size hsz) h1
end Go.Proofs.Ytdmhajeaphnebaa.Gr
namespace Go.Proofs.Ytdmhajeaphnebaa.Gr
open Go.RowKit
open Vl (Fr)
open Sy (isRs isRs_below isLs isLs_cells Rul OkR)
open Rp (isRs_cells isRs_shape)
open Tj (memB memB_iff ixN ixN_lt hdN isP idsOf idsOf_len heads_ids BackN)
variable {w : World} {rs : List Rul}
theorem Rq.start (w : World) (x : ByteArray) : Rq w ((w.alloc (.cells #[] 9)).alloc (.cells #[.string x] 9)) (.slice (some ⟨w.heap.size, 0, none⟩) 0 0) (.slice (some ⟨w.heap.size + 1, 0, none⟩) 1 1) [] [x] (w.heap.size + 1) := by
  have hb : Below w.heap.size w ((w.alloc (.cells #[] 9)).alloc (.cells #[.string x] 9)) := ((Below.refl _ w).alloc (Nat.le_refl _) _).alloc (by simp) _
  refine ⟨?_, ?_, ?_, hb, fun k hk => ?_, by omega⟩
  · have h1 : ((w.alloc (.cells #[] 9)).alloc (.cells #[.string x] 9)).heap[w.heap.size]? = some (.cells #[] 9 (0, 0)) := by
      show ((w.heap.push _).push _)[w.heap.size]? = _
      rw [Array.getElem?_push_lt (by simp), Array.getElem_push_eq]
    exact ⟨rfl, .inr ⟨_, 0, _, rfl, Nat.zero_le _, h1, Nat.le_refl _, by decide, rfl, rfl⟩⟩
  · have := Qe.new (w.alloc (.cells #[] 9)) x
    simpa using this
  · simp [Value.ownBlock]
  · simp [Value.ownBlock] at hk
    omega
set_option maxHeartbeats 8000000 in
set_option maxRecDepth 4000 in
theorem rrec_any {y : Value} (hR : isRs w rs y) (hok : OkRs rs) (nm : ByteArray) : Calls Try.prog 12 #[y, .string nm] w fun x w2 => ∃ b, x = .returned (.bool b) ∧ (b = true ↔ BackN rs nm) ∧ Below w.heap.size w w2 := by
  obtain ⟨ao, cap, hy⟩ := isRs_shape hR
  have HR := hide hR
  have HO := hide hok
  have hrI : (rs.length : Int) ≤ 30 := by have := hok.1; omega
  have HS := hide (Rq.start w nm)
  subst hy
  have HRW : Hid (∀ W, Below w.heap.size w W → isRs W rs (.slice ao rs.length cap)) := fun W hb => isRs_below HR.out hb
  have hid30 : (idsOf rs).length ≤ 30 := Nat.le_trans (idsOf_len rs) hok.1
  obtain ⟨W0, hW0⟩ : ∃ W0, W0 = ((w.alloc (.cells #[] 9)).alloc (.cells #[.string nm] 9)) := ⟨_, rfl⟩
  rw [← hW0] at HS
  have EW := hide hW0
  clear hR hok hW0
  go_enter Try.func12, Try.ntmps12
  go_wp2_with fail
  rw [← EW.out]
  obtain ⟨qb, hqb⟩ : ∃ qb, qb = w.heap.size + 1 := ⟨_, rfl⟩
  obtain ⟨sb, hsb⟩ : ∃ sb, sb = w.heap.size := ⟨_, rfl⟩
  rw [← hqb, ← hsb] at HS
  rw [← hqb, ← hsb]
  clear hqb hsb EW
  go_loopg [5, 6] (1 + (idsOf rs).length) (fun k sv qv wr => ∃ (seen wait : List ByteArray) (g : Nat), Hid (Rq w wr sv qv seen wait g ∧ Sx rs nm seen wait (fun _ _ => False) ∧ wait.length + ((idsOf rs).length - seen.length) ≤ k ∧ k ≤ 40))
  case atStart => exact ⟨[], [nm], qb, HS.out, Sx.start rs nm, by simp, by omega⟩
  case round =>
    obtain ⟨seen, wait, g, HV⟩ := hrel
    clear HS
    cases wait with
    | nil =>
      obtain ⟨o, c, cur, hqv, _⟩ := HV.out.1.q
      subst hqv
      have HE : Hid (¬ BackN rs nm ∧ Below w.heap.size w wr) := ⟨fun h => HV.out.2.1.none (bkn_iff.2 h), HV.out.1.z⟩
      clear HV
      go_wp2_with fail
      go_ret
      exact ⟨false, rfl, ⟨(fun e => by cases e), (fun e => absurd e HE.out.1)⟩, HE.out.2⟩
    | cons x0 wait =>
      obtain ⟨o, c, v', hqv, hx0, hsl, hq', ⟨qa', qc', hv'⟩, hc1⟩ := HV.out.1.q.pop
      have hP := HV.out.2.1.pop
      have hwl : wait.length + 1 ≤ 40 := by have h1 := HV.out.2.2; simp at h1; omega
      obtain ⟨sa, sc, hsv⟩ := own_sl HV.out.1.s
      rw [hqv] at hsl
      have hms : wait.length + ((idsOf rs).length - seen.length) + 1 ≤ gk ∧ gk ≤ 40 := by have h1 := HV.out.2.2; simp at h1; omega
      have HI : Hid (Rq w wr u5 v' seen wait g ∧ Sx rs nm seen wait (pend rs 0 0 x0) ∧ wait.length + ((idsOf rs).length - seen.length) + 1 ≤ gk ∧ (x0 = nm ∨ x0 ∈ seen)) := ⟨⟨HV.out.1.s, hq', HV.out.1.ap, HV.out.1.z, HV.out.1.zs, HV.out.1.zg⟩, hP.1, hms.1, hP.2⟩
      have hgk := hms.2
      subst hqv
      subst hv'
      have HQl := hide hq'
      clear HV hP hms hq'
      go_wp2_with fail
      clear hx0 hsl
      go_loopw [5, 6, 8] (fun sv qv iv wq => ∃ (i : Nat) (seen wait : List ByteArray) (g : Nat), iv = .int .i64 (i : Int) ∧ i ≤ rs.length ∧ Hid (Rq w wq sv qv seen wait g ∧ Sx rs nm seen wait (pend rs i 0 x0) ∧ wait.length + ((idsOf rs).length - seen.length) + 1 ≤ gk ∧ (x0 = nm ∨ x0 ∈ seen))) (fun _ _ iv _ => rs.length - (intOf iv).toNat)
      case atStart => exact ⟨0, seen, wait, g, rfl, Nat.zero_le _, HI.out⟩
      case round =>
        obtain ⟨i, seen, wait, g, rfl, hi, HJ⟩ := hrel
        clear HI HQl
        have HME : Hid (i < rs.length → rs.length - (intOf (.int .i64 ((i : Int) + 1))).toNat < rs.length - (intOf (.int .i64 (i : Int))).toNat) := fun h => by
          simp [intOf]; omega
        by_cases hlt : i < rs.length
        · have hltI : (i : Int) < (rs.length : Int) := by omega
          obtain ⟨rg, hao, _⟩ := (isRs_cells HR.out).2 (by omega)
          subst hao
          have HRC : Hid (∀ W, Below w.heap.size w W → ∃ va vb, isLs W rs[i].2 vb ∧ W.cell? ⟨rg, i * 4 + 1, none⟩ = some (.string rs[i].1.2.1) ∧ W.cell? ⟨rg, i * 4 + 2, none⟩ = some va ∧ W.cell? ⟨rg, i * 4 + 3, none⟩ = some vb) := fun W hb => by
            obtain ⟨g', e', hc'⟩ := (isRs_cells (HRW.out W hb)).2 (by omega)
            simp only [Option.some.injEq, Addr.mk.injEq, and_true] at e'
            subst e'
            obtain ⟨va, vb, _, h1, _, h2, h3, h4⟩ := hc' i hlt
            exact ⟨va, vb, h1, h2, h3, h4⟩
          have hb6 := (HO.out.2 rs[i] (List.getElem_mem hlt)).few
          go_wp2_with fail
          go_loopw [5, 6, 9] (fun sv qv jv wz => ∃ (j : Nat) (seen wait : List ByteArray) (g : Nat), jv = .int .i64 (j : Int) ∧ j ≤ rs[i].2.length ∧ Hid (Rq w wz sv qv seen wait g ∧ Sx rs nm seen wait (pend rs i j x0) ∧ wait.length + ((idsOf rs).length - seen.length) + 1 ≤ gk ∧ (x0 = nm ∨ x0 ∈ seen))) (fun _ _ jv _ => rs[i].2.length - (intOf jv).toNat)
          case atStart => exact ⟨0, seen, wait, g, rfl, Nat.zero_le _, HJ.out⟩
          case round =>
            obtain ⟨j, seen, wait, g, rfl, hj, HK⟩ := hrel
            clear HJ
            have HMJ : Hid (j < rs[i].2.length → rs[i].2.length - (intOf (.int .i64 ((j : Int) + 1))).toNat < rs[i].2.length - (intOf (.int .i64 (j : Int))).toNat) := fun h => by
              simp [intOf]; omega
            obtain ⟨va, vb, hls, y1, y2, y3⟩ := HRC.out wr HK.out.1.z
            have hbl : ∃ ba bc, vb = .slice ba rs[i].2.length bc := by
              obtain ⟨zs, h1, h2, _⟩ := hls
              obtain ⟨ao', cap', rfl⟩ := own_sl h2
              exact ⟨ao', cap', by rw [← h1, List.length_map]⟩
            obtain ⟨ba, bc, rfl⟩ := hbl
            have HNR : Hid ((rs[i].2.length ≤ j ∨ hdN rs[i] ≠ x0) → Sx rs nm seen wait (pend rs (i + 1) 0 x0)) := fun hh => HK.out.2.1.imp (fun x b hb => .inl (pend_rule hlt hh hb))
            obtain ⟨hdn, Hhd⟩ : ∃ hdn : ByteArray, Hid (hdn = rs[i].1.2.1) := ⟨rs[i].1.2.1, rfl⟩
            rw [← Hhd.out] at y1
            cases hb : (hdn.toList == x0.toList) with
            | false =>
              have HN : Hid (Sx rs nm seen wait (pend rs (i + 1) 0 x0)) := HNR.out (.inr (fun e => by
                have e2 : hdn = x0 := Hhd.out.trans e
                rw [ba_eq.2 e2] at hb
                cases hb))
              clear hls
              go_wp2_with fail
              exact ⟨⟨i + 1, seen, wait, g, by simp, by omega, HK.out.1, HN.out, HK.out.2.2⟩, HME.out hlt⟩
            | true =>
              have hhx : rs[i].1.2.1 = x0 := Hhd.out.symm.trans (ba_eq.1 hb)
              by_cases hjl : j < rs[i].2.length
              · have hjI : (j : Int) < (rs[i].2.length : Int) := by omega
                obtain ⟨lg, rfl, hlc⟩ := (isLs_cells hls).2 (by omega)
                obtain ⟨ta, hta, z0, z1, z2⟩ := hlc j hjl
                obtain ⟨tg, tc, rfl⟩ := own_sl hta
                have HPN : Hid (∀ x b, pend rs i j x0 x b → pend rs i (j + 1) x0 x b ∨ (isP rs[i].2[j] ∧ rs[i].2[j].2.1 = b ∧ b ∈ idsOf rs ∧ x = x0)) := fun x b h => pend_next hlt hjl h
                have HED : Hid (isP rs[i].2[j] → rs[i].2[j].2.1 ∈ idsOf rs → Edg rs x0 rs[i].2[j].2.1) := fun h1 h2 => ⟨rs[i], List.getElem_mem hlt, hhx, rs[i].2[j], List.getElem_mem hjl, h1, rfl, h2⟩
                clear hta hlc hls hhx HNR
                generalize rs[i].2[j].2.2.length = tn at z2
                generalize hl0 : rs[i].2[j] = l at *
                clear hl0
                obtain ⟨lk, ln, lt⟩ := l
                simp only at z0 z1
                obtain ⟨U, hU⟩ : ∃ U, U = wr.alloc (.cells #[.int .i64 lk, .string ln, .slice tg tn tc] 57) := ⟨_, rfl⟩
                have hUB : Below wr.heap.size wr U := by rw [hU]; exact (Below.refl _ _).alloc (Nat.le_refl _) _
                have hUL : U.heap[wr.heap.size]? = some (.cells #[.int .i64 lk, .string ln, .slice tg tn tc] 57 (0, 0)) := by rw [hU]; exact heap_alloc_new _ _
                have HU := hide (HK.out.1.below hUB)
                have u0 : U.cell? ⟨wr.heap.size, 0, none⟩ = some (.int .i64 lk) := by rw [cell_of_row _ _ 0 _ _ _ hUL]; rfl
                have u1 : U.cell? ⟨wr.heap.size, 1, none⟩ = some (.string ln) := by rw [cell_of_row _ _ 1 _ _ _ hUL]; rfl
                have HDf := hide (Ck.rdefined_any ln (HRW.out U HU.out.z) (by have := HO.out.1; omega))
                have HSK : Hid ((∀ b, isP ((lk, ln, lt) : Sy.Lit) → ln = b → b ∈ idsOf rs → b ≠ nm ∧ b ∈ seen) → Rq w U u5 u6 seen wait g ∧ Sx rs nm seen wait (pend rs i (j + 1) x0) ∧ wait.length + ((idsOf rs).length - seen.length) + 1 ≤ gk ∧ (x0 = nm ∨ x0 ∈ seen)) := fun hh => ⟨HU.out, HK.out.2.1.imp (fun x b hb => (HPN.out x b hb).elim .inl (fun k => .inr (hh b k.1 k.2.1 k.2.2.1))), HK.out.2.2⟩
                have EU := hide hU
                clear hU hUB
                go_upto_region 13 with fail
                rw [← EU.out]
                clear y1 y2 y3 z0 z1 z2
                by_cases hp : lk = 1 ∨ lk = 2
                · go_cut [70] from 56 to 69 (fun v wc => v = .bool (!(Ck.defR rs ln)) ∧ wc = U)
                  case first =>
                    clear HSK HU HK HPN HED
                    rcases hp with rfl | rfl
                    · go_wp2_with fail
                      refine Calls.mono HDf.out ?_
                      rintro e w6 ⟨rfl, hw6⟩
                      have hw6' := hw6.symm
                      subst hw6'
                      clear hw6
                      go_wp2_with fail
                      go_meet
                      exact ⟨rfl, rfl⟩
                    · go_wp2_with fail
                      refine Calls.mono HDf.out ?_
                      rintro e w6 ⟨rfl, hw6⟩
                      have hw6' := hw6.symm
                      subst hw6'
                      clear hw6
                      go_wp2_with fail
                      go_meet
                      exact ⟨rfl, rfl⟩
                  case rest =>
                    obtain ⟨rfl, hcw⟩ := hcut
                    rw [hcw]
                    clear hcw
                    cases hd : Ck.defR rs ln with
                    | false =>
                      have HN2 := hide (HSK.out (fun b _ e hm => by rw [← e] at hm; rw [defR_iff.2 hm] at hd; cases hd))
                      clear HSK HU HK HPN HED hUL
                      go_wp2_with fail
                      exact ⟨⟨j + 1, seen, wait, g, by simp, by omega, HN2.out⟩, HMJ.out hjl⟩
                    | true =>
                      have hm := defR_iff.1 hd
                      have hed := HED.out hp hm
                      cases hq : (ln.toList == nm.toList) with
                      | true =>
                        have e : ln = nm := ba_eq.1 hq
                        have HE : Hid (BackN rs nm ∧ Below w.heap.size w U) := ⟨bkn_iff.1 (HK.out.2.1.found HK.out.2.2.2 (by rw [← e]; exact hed)), HU.out.z⟩
                        clear HSK HU HK HPN HED hUL e hed hm
                        go_wp2_with fail
                        go_ret
                        exact ⟨true, rfl, ⟨(fun _ => HE.out.1), (fun _ => rfl)⟩, HE.out.2⟩
                      | false =>
                        have hne : ln ≠ nm := fun e => by rw [ba_eq.2 e] at hq; cases hq
                        obtain ⟨sa', sc', hsv'⟩ := own_sl HU.out.s
                        have hsl30 : seen.length ≤ 30 := Nat.le_trans (Tj.nodup_len HK.out.2.1.s.nd HK.out.2.1.s.sm) hid30
                        have HPl := hide (place_any HU.out.s (by omega) ln)
                        by_cases hms : memB seen ln = true
                        · have hpl : plc seen ln = (ixN seen ln : Int) := if_pos hms
                          have hp0 : ¬ ((ixN seen ln : Int) < 0) := by omega
                          rw [hpl] at HPl
                          have HN2 := hide (HSK.out (fun b _ e _ => by rw [← e]; exact ⟨hne, memB_iff.1 hms⟩))
                          clear HSK HU HK HPN HED hUL hed hm hne hms hpl
                          generalize ixN seen ln = ix at *
                          subst hsv'
                          go_wp2_with fail
                          refine Calls.mono HPl.out ?_
                          rintro e w6 ⟨rfl, hw6⟩
                          have hw6' := hw6.symm
                          subst hw6'
                          clear hw6 HPl
                          go_wp2_with fail
                          exact ⟨⟨j + 1, seen, wait, g, by simp, by omega, HN2.out⟩, HMJ.out hjl⟩
                        · have hpl : plc seen ln = -1 := if_neg hms
                          rw [hpl] at HPl
                          have hns : ln ∉ seen := fun h => hms (memB_iff.2 h)
                          have hwl2 : wait.length ≤ 40 := by have := HK.out.2.2.1; omega
                          obtain ⟨sg, sc2, w3, g', qa, qc, w5, hr1, hr2, HR5, HF3⟩ := HU.out.push2 ln (by omega) (by omega)
                          have u13 : w3.cell? ⟨wr.heap.size, 1, none⟩ = some (.string ln) := HF3.out.cell u1 (own_ty HU.out.s hUL (by decide))
                          obtain ⟨M, HMM⟩ : ∃ M, Hid (M = seen.length + 1) := ⟨_, rfl⟩
                          obtain ⟨N, HNN⟩ : ∃ N, Hid (N = wait.length + 1) := ⟨_, rfl⟩
                          rw [← HMM.out] at hr1 HR5
                          rw [← HNN.out] at hr2 HR5
                          have HN2 : Hid (Rq w w5 (.slice (some ⟨sg, 0, none⟩) M sc2) (.slice qa N qc) (seen ++ [ln]) (wait ++ [ln]) g' ∧ Sx rs nm (seen ++ [ln]) (wait ++ [ln]) (pend rs i (j + 1) x0) ∧ (wait ++ [ln]).length + ((idsOf rs).length - (seen ++ [ln]).length) + 1 ≤ gk ∧ (x0 = nm ∨ x0 ∈ seen ++ [ln])) := by
                            have hS := HK.out.2.1.push (Q := pend rs i (j + 1) x0) HK.out.2.2.2 hed hne hns (fun x b hb => (HPN.out x b hb).imp id (fun k => k.2.1.symm))
                            refine ⟨HR5.out, hS, ?_, HK.out.2.2.2.imp id (fun k => List.mem_append_left _ k)⟩
                            have h1 := Tj.nodup_len hS.s.nd hS.s.sm
                            have h2 := HK.out.2.2.1
                            simp only [List.length_append, List.length_singleton] at h1 ⊢
                            omega
                          have hUQ := HU.out.q
                          obtain ⟨qo, qcp, qcur, hqv', _⟩ := hUQ
                          clear HSK HK HPN HED hed hm hne hms hpl HR5 HMM HNN hns HF3
                          subst hsv'
                          subst hqv'
                          clear HU
                          go_wp2_with fail
                          refine Calls.mono HPl.out ?_
                          rintro e w6 ⟨rfl, hw6⟩
                          have hw6' := hw6.symm
                          subst hw6'
                          clear hw6 HPl
                          go_upto_region 18 with (at_builtin; refine Lx.wpList_append_run _ rfl (.tmp 80) (.tmp 83) 32 32 rfl _ _ rfl rfl (hr1 _) ?_)
                          clear hr1
                          go_wp2_with (at_builtin; refine Lx.wpList_append_run _ rfl (.tmp 85) (.tmp 88) 32 32 rfl _ _ rfl rfl (hr2 _) ?_)
                          exact ⟨⟨j + 1, seen ++ [ln], wait ++ [ln], g', by simp, by omega, HN2.out⟩, HMJ.out hjl⟩
                · have g1 : (lk != 1) = true := by simp; exact fun e => hp (.inl e)
                  have g2 : (lk != 2) = true := by simp; exact fun e => hp (.inr e)
                  have HN2 := hide (HSK.out (fun b h _ _ => absurd h hp))
                  clear HSK hp HK HU HPN HED hUL
                  go_wp2_with fail
                  exact ⟨⟨j + 1, seen, wait, g, by simp, by omega, HN2.out⟩, HMJ.out hjl⟩
              · have hge : ¬ ((j : Int) < (rs[i].2.length : Int)) := by omega
                have HN : Hid (Sx rs nm seen wait (pend rs (i + 1) 0 x0)) := HNR.out (.inl (by omega))
                clear hls hhx
                go_wp2_with fail
                exact ⟨⟨i + 1, seen, wait, g, by simp, by omega, HK.out.1, HN.out, HK.out.2.2⟩, HME.out hlt⟩
        · have hge : ¬ ((i : Int) < (rs.length : Int)) := by omega
          have HN : Hid (Sx rs nm seen wait (fun _ _ => False)) := HJ.out.2.1.imp (fun x b hb => absurd hb (fun h => pend_end (by omega) h))
          have hms := HJ.out.2.2.1
          have HQ := hide HJ.out.1
          clear HJ
          go_wp2_with fail
          go_roundg (wait.length + ((idsOf rs).length - seen.length))
          case measure => omega
          case rel => exact ⟨seen, wait, g, HQ.out, HN.out, Nat.le_refl _, by omega⟩
end Go.Proofs.Ytdmhajeaphnebaa.Gr
namespace Go.Proofs.Ytdmhajeaphnebaa.Gr
open Go.RowKit
open Vl (Fr)
open Lx (tx)
open Sy (isRs isRs_below Rul OkR)
open Ck (begR1 begR2 begT1 begT2 rules_any beg_rules1 beg_rules2 read_ok)
open Tj (NSol NLeast hdN idsOf heads_ids BackN)
variable {w : World}
theorem ok_read (s : ByteArray) : OkRs (Ck.rulesS s) := read_ok s
theorem sorted_one {S T : List ByteArray} (h1 : S.Pairwise (fun a b => bsL a ≤ bsL b)) (h2 : T.Pairwise (fun a b => bsL a ≤ bsL b)) (hp : S.Perm T) : S = T :=
  List.Perm.eq_of_pairwise (le := fun a b => bsL a ≤ bsL b) (fun _ _ _ _ h k => bsL_inj (List.le_antisymm h k)) h1 h2 hp
theorem of_yes {rs : List Rul} {w w2 : World} {x : Ending} (h : OfR rs w x w2) {t : ByteArray → Int} (ht : NSol rs t) : Below w.heap.size w w2 ∧ ∃ ob L s, x = .returned (.tuple #[.map (some ob), .int .i64 0]) ∧ Mp w2 ob L s ∧ L.Perm (idsOf rs) ∧ NLeast rs s := by
  rcases h.2 with ⟨ob, L, s, h1, h2, h3, h4, _⟩ | ⟨_, hn⟩
  · exact ⟨h.1, ob, L, s, h1, h2, h3, h4⟩
  · exact absurd ht (hn t)
theorem of_no {rs : List Rul} {w w2 : World} {x : Ending} (h : OfR rs w x w2) (ht : ∀ t, ¬ NSol rs t) : Below w.heap.size w w2 ∧ x = .returned (.tuple #[.map none, .int .i64 7]) := by
  rcases h.2 with ⟨_, _, s, _, _, _, h4, _⟩ | ⟨h1, _⟩
  · exact absurd h4.sol (ht s)
  · exact ⟨h.1, h1⟩
theorem ord_yes {rs : List Rul} {w w2 : World} {x : Ending} (h : OrdR rs w x w2) {t : ByteArray → Int} (ht : NSol rs t) : Below w.heap.size w w2 ∧ ∃ go co h V S s, x = .returned (.tuple #[.slice (some ⟨go, 0, none⟩) h co, .int .i64 0]) ∧ (w2.ownsRow 0 32 1 (.slice (some ⟨go, 0, none⟩) h co) h ((List.range h).map V) ∧ ∀ k, k < h → w2.ownsRow 0 9 1 (V k) (lev s S k).length (nmRow (lev s S k))) ∧ S.Perm (idsOf rs) ∧ S.Pairwise (fun a b => bsL a ≤ bsL b) ∧ NLeast rs s ∧ (∀ x ∈ S, s x < (h : Int)) ∧ (h = 0 ∨ ∃ x ∈ S, s x + 1 = (h : Int)) := by
  rcases h.2 with h1 | ⟨_, hn⟩
  · exact ⟨h.1, h1⟩
  · exact absurd ht (hn t)
theorem ord_no {rs : List Rul} {w w2 : World} {x : Ending} (h : OrdR rs w x w2) (ht : ∀ t, ¬ NSol rs t) : Below w.heap.size w w2 ∧ x = .returned (.tuple #[.slice none 0 0, .int .i64 7]) := by
  rcases h.2 with ⟨_, _, _, _, _, s, _, _, _, _, h4, _⟩ | ⟨h1, _⟩
  · exact absurd h4.sol (ht s)
  · exact ⟨h.1, h1⟩
set_option maxHeartbeats 8000000 in
set_option maxRecDepth 4000 in
theorem begun_any : Calls Try.prog 5 #[] w fun x w2 => x = .returned (.bool true) ∧ Below w.heap.size w w2 := by
  have HR1 : Hid (Calls Try.prog 6 #[.string ⟨#[112, 32, 58, 45, 32, 33, 113, 46, 32, 113, 32, 58, 45, 32, 114, 46, 32, 115, 32, 58, 45, 32, 115, 46]⟩] w fun e w' => (∃ y, e = .returned y ∧ isRs w' begR1 y) ∧ Below w.heap.size w w') := by
    have h := rules_any begT1 w
    rw [beg_rules1] at h
    exact h
  have HR2 : Hid (∀ W, Calls Try.prog 6 #[.string ⟨#[112, 32, 58, 45, 32, 33, 112, 46]⟩] W fun e w' => (∃ y, e = .returned y ∧ isRs w' begR2 y) ∧ Below W.heap.size W w') := fun W => by
    have h := rules_any begT2 W
    rw [beg_rules2] at h
    exact h
  have HO1 : Hid (OkRs begR1) := by
    have h := ok_read begT1
    rw [beg_rules1] at h
    exact h
  have HO2 : Hid (OkRs begR2) := by
    have h := ok_read begT2
    rw [beg_rules2] at h
    exact h
  go_enter Try.func5, Try.ntmps5
  go_wp2_with fail
  refine Calls.mono HR1.out ?_
  rintro x w1 ⟨⟨y1, rfl, hi1⟩, hb1⟩
  obtain ⟨ya, yc, hy1⟩ := Rp.isRs_shape hi1
  have HI1 := hide hi1
  have HB1 := hide hb1
  have HOf := hide (of_any HI1.out HO1.out)
  subst hy1
  clear hi1 hb1 HR1
  go_wp2_with fail
  refine Calls.mono HOf.out ?_
  intro x w2 hof
  obtain ⟨hb2, ob, L, s, rfl, hmp, hperm, hleast⟩ := of_yes hof nsol1
  have HB2 : Hid (Below w.heap.size w w2) := HB1.out.trans (hb2.mono HB1.out.size)
  have HI2 := hide (isRs_below HI1.out hb2)
  have HMp := hide hmp
  have hl1 := least1 hleast
  rw [ids1] at hperm
  have HPe := hide hperm
  have HLe := hide hl1
  have HOr := hide (order_any HI2.out HO1.out)
  clear hof hb2 hmp hperm hleast hl1 HOf HI1
  go_wp2_with fail
  refine Calls.mono HOr.out ?_
  intro x w3 hor
  obtain ⟨hb3, go, co, h, V, S, s3, rfl, ⟨hrow, hrows⟩, hSp, hSs, hl3, hlt, hex⟩ := ord_yes hor nsol1
  have hl1 := least1 hl3
  rw [ids1] at hSp
  have hS : S = [tx [112], tx [113], tx [115]] := sorted_one hSs (by decide) hSp
  subst hS
  have hh : h = 2 := by
    have h1 := hlt (tx [112]) (by simp)
    rw [hl1.1] at h1
    rcases hex with h2 | ⟨x, hx, h2⟩
    · omega
    · simp only [List.mem_cons, List.not_mem_nil, or_false] at hx
      rcases hx with rfl | rfl | rfl
      · rw [hl1.1] at h2; omega
      · rw [hl1.2.1] at h2; omega
      · rw [hl1.2.2] at h2; omega
  subst hh
  have hlev : lev s3 [tx [112], tx [113], tx [115]] 0 = [tx [113], tx [115]] := by
    simp [lev, hl1.1, hl1.2.1, hl1.2.2]
  have hr0 := hrows 0 (by omega)
  rw [hlev] at hr0
  have HB3 : Hid (Below w.heap.size w w3) := HB2.out.trans (hb3.mono HB2.out.size)
  have HM3 := hide (HMp.out.below hb3)
  have HI3 := hide (isRs_below HI2.out hb3)
  have HRo := hide hrow
  have HR0 := hide hr0
  clear hb3 hrow hrows hSp hSs hl3 hlt hex hl1 hlev hr0 HOr HI2 HMp hor
  go_wp2_with fail
  refine Calls.mono (HR2.out _) ?_
  rintro x w4 ⟨⟨y2, rfl, hi4⟩, hb4⟩
  obtain ⟨za, zc, hy2⟩ := Rp.isRs_shape hi4
  have HOf2 := hide (of_any hi4 HO2.out)
  subst hy2
  have HB4 := hide hb4
  clear hi4 hb4 HR2
  go_wp2_with fail
  refine Calls.mono HOf2.out ?_
  intro x w5 hof2
  obtain ⟨hb5, rfl⟩ := of_no hof2 nsol2
  have hb35 : Below w3.heap.size w3 w5 := HB4.out.trans (hb5.mono HB4.out.size)
  have hM5 := HM3.out.below hb35
  have HI5 := hide (isRs_below HI3.out hb35)
  have hRo5 := own_of_cell HRo.out (Fr.of_below (F := fun _ => False) hb35) (fun _ hk => hk.elim)
  have hR05 := own_of_cell HR0.out (Fr.of_below (F := fun _ => False) hb35) (fun _ hk => hk.elim)
  have HB5 : Hid (Below w.heap.size w w5) := HB3.out.trans (hb35.mono HB3.out.size)
  have gp : (Instr.lookup 25 (.map (some ob)) (.string ⟨#[112]⟩) false).run Try.prog w5 = .ok (.int .i64 1) w5 := by
    have h1 := hM5.get (x := tx [112]) (HPe.out.mem_iff.2 (by simp))
    rw [HLe.out.1] at h1
    exact h1
  have gq : (Instr.lookup 25 (.map (some ob)) (.string ⟨#[113]⟩) false).run Try.prog w5 = .ok (.int .i64 0) w5 := by
    have h1 := hM5.get (x := tx [113]) (HPe.out.mem_iff.2 (by simp))
    rw [HLe.out.2.1] at h1
    exact h1
  obtain ⟨_, _, ee, -, -, hoc, -⟩ := own_open hRo5 (by omega)
  simp only [Value.slice.injEq, Option.some.injEq, Addr.mk.injEq, and_true, true_and] at ee
  obtain ⟨rfl, rfl⟩ := ee
  have o0 : w5.cell? ⟨go, 0, none⟩ = some (V 0) := (hoc 0 (by omega)).trans (by simp)
  obtain ⟨v0g, v0c, hv0, -, -, hvc, -⟩ := own_open hR05 (by simp)
  have o1 : w5.cell? ⟨v0g, 1, none⟩ = some (.string ⟨#[115]⟩) := (hvc 1 (by simp)).trans rfl
  rw [hv0] at o0
  simp only [List.length_cons, List.length_nil, Nat.zero_add, Nat.reduceAdd] at o0
  have HRs := hide (recursive_any HI5.out HO1.out (tx [115]))
  have HRp : Hid (∀ W, Below w5.heap.size w5 W → Calls Try.prog 11 #[.slice ya begR1.length yc, .string (tx [112])] W fun x w2 => ∃ b, x = .returned (.bool b) ∧ (b = true ↔ BackN begR1 (tx [112])) ∧ Below W.heap.size W w2) := fun W hb => recursive_any (isRs_below HI5.out hb) HO1.out (tx [112])
  clear hof2 hb5 hb35 hM5 hRo5 hR05 hoc hvc hv0 HOf2 HM3 HI3 HRo HR0
  go_wp2_with fail
  refine Calls.mono HRs.out ?_
  rintro x w6 ⟨b6, rfl, hb6, hB6⟩
  have e6 : b6 = true := hb6.2 back_s
  subst e6
  have HB6 := hide hB6
  clear hb6 hB6 gp gq o0 o1 HRs
  go_wp2_with fail
  refine Calls.mono (HRp.out _ HB6.out) ?_
  rintro x w7 ⟨b7, rfl, hb7, hB7⟩
  have e7 : b7 = false := by
    cases b7 with
    | false => rfl
    | true => exact absurd (hb7.1 rfl) back_p
  subst e7
  have HB7 : Hid (Below w.heap.size w w7) := (HB5.out.trans (HB6.out.mono HB5.out.size)).trans (hB7.mono (HB5.out.trans (HB6.out.mono HB5.out.size)).size)
  clear hb7 hB7 HRp
  go_wp2_with fail
  go_ret
  exact ⟨rfl, HB7.out⟩
end Go.Proofs.Ytdmhajeaphnebaa.Gr
namespace Go.Proofs.Ytdmhajeaphnebaa.Ps
open Lx (Wd tx bs)
open Sy
open Tj (NSol NLeast hdN isP ng)
theorem tx_inj {a b : List UInt8} (h : tx a = tx b) : a = b := by
  have := congrArg (fun x : ByteArray => x.data.toList) h
  simpa [tx] using this
def idxL (x : List UInt8) : Nat := (List.range 21).findIdx fun i => decide (nmL i = x)
theorem idx_nm : ∀ i : Fin 21, idxL (nmL i) = i := by decide
theorem idx_at {i : Nat} (h : i ≤ 20) : idxL (nmS i).data.toList = i := by
  have := idx_nm ⟨i, by omega⟩
  simpa [nmS, tx] using this
theorem nm_inj {i j : Nat} (hi : i ≤ 20) (hj : j ≤ 20) (h : nmS i = nmS j) : i = j := by
  rw [← idx_at hi, ← idx_at hj, h]
theorem nm_base (i : Nat) : nmS i ≠ tx [98, 97, 115, 101] := fun h => by
  have := tx_inj h
  simp [nmL] at this
/-- How many of the first i signs are set. -/
def sgc (sg : List Bool) (i : Nat) : Nat := (sg.take i).countP id
theorem sgc_zero (sg : List Bool) : sgc sg 0 = 0 := by simp [sgc]
theorem sgc_next {sg : List Bool} {i : Nat} {b : Bool} (h : sg[i]? = some b) : sgc sg (i + 1) = sgc sg i + (if b = true then 1 else 0) := by
  unfold sgc
  rw [List.take_add_one, h, List.countP_append]
  cases b <;> simp
theorem mem_body {r : Rul} : ∀ (sg : List Bool) (i : Nat), r ∈ bodyR i sg ↔ ∃ j b, sg[j]? = some b ∧ r = clR (nmL (i + j + 1)) b (nmL (i + j))
  | [], i => by simp [bodyR]
  | b :: q, i => by
    rw [bodyR, List.mem_cons, mem_body q (i + 1)]
    constructor
    · rintro (h | ⟨j, c, h1, h2⟩)
      · exact ⟨0, b, rfl, h⟩
      · exact ⟨j + 1, c, by simpa using h1, by rw [h2, show i + 1 + j = i + (j + 1) from by omega]⟩
    · rintro ⟨j, c, h1, h2⟩
      cases j with
      | zero =>
        simp at h1
        subst h1
        exact Or.inl h2
      | succ j => exact Or.inr ⟨j, c, by simpa using h1, by rw [h2, show i + 1 + j = i + (j + 1) from by omega]⟩
def chF (sg : List Bool) (x : ByteArray) : Int := (sgc sg (idxL x.data.toList) : Nat)
theorem chF_at {sg : List Bool} {i : Nat} (h : i ≤ 20) : chF sg (nmS i) = (sgc sg i : Nat) := by rw [chF, idx_at h]
theorem mem_chain {sg : List Bool} {k : Bool} {r : Rul} : r ∈ chainR sg k ↔ r = clR (nmL 0) false [98, 97, 115, 101] ∨ (∃ j b, sg[j]? = some b ∧ r = clR (nmL (j + 1)) b (nmL j)) ∨ (k = true ∧ r = clR (nmL 0) false (nmL sg.length)) := by
  rw [chainR, List.mem_cons, List.mem_append, mem_body sg 0]
  simp only [Nat.zero_add]
  cases k <;> simp
theorem cl_head (a : List UInt8) (b : Bool) (c : List UInt8) : hdN (clR a b c) = tx a := rfl
theorem head_nm {sg : List Bool} {k : Bool} {r : Rul} (hr : r ∈ chainR sg k) : ∃ i, i ≤ sg.length ∧ hdN r = nmS i := by
  rcases mem_chain.1 hr with rfl | ⟨j, b, h, rfl⟩ | ⟨_, rfl⟩
  · exact ⟨0, by omega, rfl⟩
  · exact ⟨j + 1, (List.getElem?_eq_some_iff.1 h).1, rfl⟩
  · exact ⟨0, by omega, rfl⟩
theorem nm_head {sg : List Bool} {k : Bool} {i : Nat} (hi : i ≤ sg.length) : ∃ r ∈ chainR sg k, hdN r = nmS i := by
  cases i with
  | zero => exact ⟨_, mem_chain.2 (Or.inl rfl), rfl⟩
  | succ i => exact ⟨_, mem_chain.2 (Or.inr (Or.inl ⟨i, sg[i], List.getElem?_eq_getElem (by omega), rfl⟩)), rfl⟩
theorem chain_up {sg : List Bool} {k : Bool} {t : ByteArray → Int} (h : NSol (chainR sg k) t) : ∀ i, i ≤ sg.length → t (nmS 0) + (sgc sg i : Nat) ≤ t (nmS i)
  | 0, _ => by rw [sgc_zero]; simp
  | i + 1, hi => by
    have ih := chain_up h i (by omega)
    have hg : sg[i]? = some sg[i] := List.getElem?_eq_getElem (by omega)
    have h1 := h.le _ (mem_chain.2 (Or.inr (Or.inl ⟨i, sg[i], hg, rfl⟩))) _ (List.mem_singleton.2 rfl) (by cases sg[i] <;> simp [isP]) (nm_head (by omega))
    have h2 : t (nmS i) + ng (decide ((if sg[i] = true then (2 : Int) else 1) = 2)) ≤ t (nmS (i + 1)) := h1
    rw [sgc_next hg]
    cases hb : sg[i] <;> rw [hb] at h2 <;> simp [ng] at h2 ⊢ <;> omega
theorem chain_no {sg : List Bool} (hn : 0 < sgc sg sg.length) (t : ByteArray → Int) : ¬ NSol (chainR sg true) t := fun h => by
  have h1 := chain_up h sg.length (Nat.le_refl _)
  have h2 := h.le _ (mem_chain.2 (Or.inr (Or.inr ⟨rfl, rfl⟩))) _ (List.mem_singleton.2 rfl) (by simp [isP]) (nm_head (Nat.le_refl _))
  have h3 : t (nmS sg.length) + ng (decide ((if false = true then (2 : Int) else 1) = 2)) ≤ t (nmS 0) := h2
  simp [ng] at h3
  omega
theorem chain_sol {sg : List Bool} {k : Bool} (hl : sg.length ≤ 20) (hk : k = true → sgc sg sg.length = 0) : NSol (chainR sg k) (chF sg) := by
  refine ⟨fun r _ => by unfold chF; omega, fun r hr l hm hp hq => ?_⟩
  rcases mem_chain.1 hr with rfl | ⟨j, b, h, rfl⟩ | ⟨h, rfl⟩
  · obtain rfl := List.mem_singleton.1 hm
    obtain ⟨q, hq1, hq2⟩ := hq
    obtain ⟨i, _, e⟩ := head_nm hq1
    exact absurd (e.symm.trans hq2) (nm_base i)
  · obtain rfl := List.mem_singleton.1 hm
    have hj := (List.getElem?_eq_some_iff.1 h).1
    show chF sg (nmS j) + ng (decide ((if b = true then (2 : Int) else 1) = 2)) ≤ chF sg (nmS (j + 1))
    rw [chF_at (by omega), chF_at (by omega), sgc_next h]
    cases b <;> simp [ng]
  · obtain rfl := List.mem_singleton.1 hm
    show chF sg (nmS sg.length) + ng (decide ((if false = true then (2 : Int) else 1) = 2)) ≤ chF sg (nmS 0)
    rw [chF_at hl, chF_at (by omega), hk h]
    simp [ng]
theorem chain_least {sg : List Bool} {k : Bool} (hl : sg.length ≤ 20) (hk : k = true → sgc sg sg.length = 0) : NLeast (chainR sg k) (chF sg) := by
  refine ⟨chain_sol hl hk, fun t ht r hr => ?_⟩
  obtain ⟨i, hi, e⟩ := head_nm hr
  have h1 := chain_up ht i hi
  obtain ⟨q, hq, e2⟩ := nm_head (sg := sg) (k := k) (i := 0) (by omega)
  have h2 := ht.nn q hq
  rw [e2] at h2
  rw [e, chF_at (by omega)]
  omega
end Go.Proofs.Ytdmhajeaphnebaa.Ps
namespace Go.Proofs.Ytdmhajeaphnebaa.Ps
open Lx (Wd tx bs)
open Sy
open Gr (Edg Rcn Bkn bkn_iff)
open Tj (NSol NLeast hdN isP ng BackN idsOf heads_ids)
theorem nm_ids {sg : List Bool} {k : Bool} {i : Nat} (hi : i ≤ sg.length) : nmS i ∈ idsOf (chainR sg k) := ((heads_ids _).mem _).2 (nm_head hi)
theorem ids_len {sg : List Bool} {k : Bool} (hl : sg.length ≤ 20) : (idsOf (chainR sg k)).Perm ((List.range (sg.length + 1)).map nmS) := by
  refine (List.perm_ext_iff_of_nodup (heads_ids _).nd ?_).2 fun x => ?_
  · rw [List.Nodup, List.pairwise_map]
    refine List.Pairwise.imp_of_mem (R := fun a b => a ≠ b) (fun {a b} ha hb h e => h ?_) List.nodup_range
    exact nm_inj (by have := List.mem_range.1 ha; omega) (by have := List.mem_range.1 hb; omega) e
  · rw [(heads_ids _).mem, List.mem_map]
    constructor
    · rintro ⟨r, hr, rfl⟩
      obtain ⟨i, hi, e⟩ := head_nm hr
      exact ⟨i, List.mem_range.2 (by omega), e.symm⟩
    · rintro ⟨i, hi, rfl⟩
      exact nm_head (by have := List.mem_range.1 hi; omega)
theorem edge_down {sg : List Bool} {k : Bool} {i : Nat} (hi : i < sg.length) : Edg (chainR sg k) (nmS (i + 1)) (nmS i) :=
  ⟨_, mem_chain.2 (Or.inr (Or.inl ⟨i, sg[i], List.getElem?_eq_getElem hi, rfl⟩)), rfl, _, List.mem_singleton.2 rfl, by cases sg[i] <;> simp [isP], rfl, nm_ids (by omega)⟩
theorem edge_close {sg : List Bool} : Edg (chainR sg true) (nmS 0) (nmS sg.length) :=
  ⟨_, mem_chain.2 (Or.inr (Or.inr ⟨rfl, rfl⟩)), rfl, _, List.mem_singleton.2 rfl, by simp [isP], rfl, nm_ids (Nat.le_refl _)⟩
theorem down {sg : List Bool} {k : Bool} (j : Nat) : ∀ d, j + d ≤ sg.length → Rcn (chainR sg k) (nmS (j + d)) (nmS j)
  | 0, _ => .refl _
  | d + 1, h => .step (edge_down (i := j + d) (by omega)) (down j d (by omega))
theorem back_all {sg : List Bool} {i : Nat} (hi : i ≤ sg.length) : BackN (chainR sg true) (nmS i) := by
  refine bkn_iff.1 ?_
  have h1 : Rcn (chainR sg true) (nmS sg.length) (nmS i) := by
    have := down (sg := sg) (k := true) i (sg.length - i) (by omega)
    rwa [show i + (sg.length - i) = sg.length from by omega] at this
  cases i with
  | zero => exact ⟨_, edge_close, h1⟩
  | succ i =>
    have h2 : Rcn (chainR sg true) (nmS i) (nmS 0) := by
      have := down (sg := sg) (k := true) 0 i (by omega)
      rwa [Nat.zero_add] at this
    exact ⟨_, edge_down (by omega), h2.trans (.step edge_close h1)⟩
theorem edge_less {sg : List Bool} (hl : sg.length ≤ 20) {a b : ByteArray} (h : Edg (chainR sg false) a b) : idxL b.data.toList < idxL a.data.toList := by
  obtain ⟨r, hr, rfl, l, hm, _, rfl, hb⟩ := h
  rcases mem_chain.1 hr with rfl | ⟨j, b, h, rfl⟩ | ⟨h, _⟩
  · obtain rfl := List.mem_singleton.1 hm
    obtain ⟨q, hq, e⟩ := ((heads_ids _).mem _).1 hb
    obtain ⟨i, _, e2⟩ := head_nm hq
    exact absurd (e2.symm.trans e) (nm_base i)
  · obtain rfl := List.mem_singleton.1 hm
    have hj := (List.getElem?_eq_some_iff.1 h).1
    show idxL (nmS j).data.toList < idxL (nmS (j + 1)).data.toList
    rw [idx_at (by omega), idx_at (by omega)]
    omega
  · cases h
theorem reach_less {sg : List Bool} (hl : sg.length ≤ 20) {a b : ByteArray} (h : Rcn (chainR sg false) a b) : idxL b.data.toList ≤ idxL a.data.toList := by
  induction h with
  | refl => exact Nat.le_refl _
  | step h1 _ ih => exact Nat.le_trans ih (Nat.le_of_lt (edge_less hl h1))
theorem back_none {sg : List Bool} (hl : sg.length ≤ 20) (x : ByteArray) : ¬ BackN (chainR sg false) x := fun h => by
  obtain ⟨b, hb, hr⟩ := bkn_iff.2 h
  exact Nat.lt_irrefl _ (Nat.lt_of_le_of_lt (reach_less hl hr) (edge_less hl hb))
theorem back_iff {sg : List Bool} (hl : sg.length ≤ 20) (k : Bool) {i : Nat} (hi : i ≤ sg.length) : BackN (chainR sg k) (nmS i) ↔ k = true := by
  cases k with
  | false => exact ⟨fun h => absurd h (back_none hl _), fun h => by cases h⟩
  | true => exact ⟨fun _ => rfl, fun _ => back_all hi⟩
end Go.Proofs.Ytdmhajeaphnebaa.Ps

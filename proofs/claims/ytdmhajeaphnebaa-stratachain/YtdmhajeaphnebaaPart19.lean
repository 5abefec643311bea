/- The reference's Heads: a name is laid between others; mathematics and memory. No walk. The reference's Heads: its walk. Order's walk. The reference's Strata: mathematics and memory. No walk. The reference's Strata: its walk. -/
import Derived.Test.YtdmhajeaphnebaaPart18
import Derived.Test.YtdmhajeaphnebaaPart10
import Derived.Deep.CutRange
import Derived.Sort.Walk0
namespace Go.Proofs.Ytdmhajeaphnebaa.Gr
open Go.RowKit
open Vl (Fr)
open Tj (memB memB_iff ixN ixN_lt HeadsOf hdN)
variable {U : World}
theorem run_app_nil (W : World) (a : Addr) (ty : TypeId) : (Builtin.append_ #[32, 32] ty #[.slice (some a) 1 1, .slice none 0 0]).run Try.prog W = .ok (.slice (some a) 1 1) W := by
  obtain ⟨i, hi, hz, hsize, hby⟩ := info_parts Vl.Try.info9
  simp [Builtin.append_, run_underlying Try.underlying32, sizeOf, typeInfo, zeroValue, hi, Builtin.lenOf, run_firstCells_none, storeCells, Result.andThen]
theorem nmRow_one (L : List ByteArray) : ∀ u ∈ nmRow L, u.oneCell' = true := fun u hu => by
  obtain ⟨x, _, rfl⟩ := List.mem_map.1 hu
  rfl
theorem nmRow_len (L : List ByteArray) : (nmRow L).length = L.length := by simp [nmRow]
/-- What a growing append leaves. -/
theorem grown_row (w : World) (z : Value) (hzs : z.cells.size = 1) (n old : Nat) (xs news : List Value) (hl : (xs ++ news).length = n) (hn : n ≤ 1000000) :
    (w.drew.alloc (.cells (xs.toArray ++ news.toArray ++ Builtin.zeroCells z.cells (grownCap w n old 9 - n)) 9)).ownsRow 0 9 1 (.slice (some ⟨w.heap.size, 0, none⟩) n (grownCap w n old 9)) n (xs ++ news) := by
  have hge := grownCap_ge w n old 9
  have hcm : grownCap w n old 9 ≤ maxLen := grownCap_le_maxLen w n old 9 (by unfold maxLen; omega)
  refine ⟨by rw [hl, Nat.mul_one], .inr ⟨w.heap.size, _, _, rfl, Nat.zero_le _, heap_alloc_new w.drew _, hge, hcm, ?_, ?_⟩⟩
  · simp only [Array.size_append, List.size_toArray, size_zeroCells, hzs]
    rw [List.length_append] at hl
    omega
  · simp only [Array.toList_append, List.append_assoc]
    rw [← List.append_assoc, Nat.mul_one, ← hl]
    exact List.take_left
theorem elem32 : Try.prog.underlying 32 = some (.slice (Try.prog.elem 32)) := by kernel_rfl
theorem size32 (w : World) : (sizeOf (Try.prog.elem 32)).run Try.prog w = .ok 1 w := by kernel_rfl
theorem sl_hm (W : World) (ao : Option Addr) (m c k : Nat) (hk : k ≤ c) : (Instr.slice 32 (.slice ao m c) none (some (.int .i64 (k : Int))) (some (.int .i64 (k : Int)))).run Try.prog W = .ok (.slice ao k k) W := by
  have h1 : (k : Int) ≤ (c : Int) := by omega
  simp [Instr.slice, run_underlying elem32, Instr.sliceBounds, run_sliceBound, h1, size32, Result.andThen]
  intro _
  cases ao with
  | none => rfl
  | some a => simp [Addr.add]
/-- Where what is left of a row behind k begins. -/
def tailA (g c k : Nat) : Addr := if c = k then ⟨g, 0, none⟩ else ⟨g, k, none⟩
theorem sl_l (W : World) (g m c k : Nat) (hk : k ≤ m) : (Instr.slice 32 (.slice (some ⟨g, 0, none⟩) m c) (some (.int .i64 (k : Int))) none none).run Try.prog W = .ok (.slice (some (tailA g c k)) (m - k) (c - k)) W := by
  rw [run_slice_l W 32 (some ⟨g, 0, none⟩) m c elem32 .i64 k (by omega) (by omega), size32]
  simp only [Result.andThen, sliced, Int.toNat_natCast, tailA]
  split
  · rfl
  · simp [Addr.add_lit]
theorem sl_n (W : World) : (Instr.slice 32 (.slice none 0 0) (some (.int .i64 ((0 : Nat) : Int))) none none).run Try.prog W = .ok (.slice none 0 0) W := by
  rw [run_slice_l W 32 none 0 0 elem32 .i64 ((0 : Nat) : Int) (by omega) (by omega), size32]
  rfl
theorem ins_some {g m cap k : Nat} {Hs : List ByteArray} {nm : ByteArray} (h : U.ownsRow 0 9 1 (.slice (some ⟨g, 0, none⟩) m cap) m (nmRow Hs)) (hm : Hs.length = m) (hm1 : 0 < m) (hk : k ≤ m) (hm30 : m ≤ 1000) :
    ∃ g2 c2 w2 g4 c4 w4, (∀ ty, (Builtin.append_ #[32, 32] ty #[.slice (some ⟨U.heap.size, 0, none⟩) 1 1, .slice (some (tailA g cap k)) (m - k) (cap - k)]).run Try.prog (U.drew.alloc (.cells #[.string nm] 9)) = .ok (.slice (some ⟨g2, 0, none⟩) (1 + (m - k)) c2) w2) ∧
      (∀ ty, (Builtin.append_ #[32, 32] ty #[.slice (some ⟨g, 0, none⟩) k k, .slice (some ⟨g2, 0, none⟩) (1 + (m - k)) c2]).run Try.prog w2 = .ok (.slice (some ⟨g4, 0, none⟩) (m + 1) c4) w4) ∧
      Hid (w4.ownsRow 0 9 1 (.slice (some ⟨g4, 0, none⟩) (m + 1) c4) (m + 1) (nmRow (Hs.take k ++ nm :: Hs.drop k))) ∧ Hid (Below U.heap.size U w4) := by
  obtain ⟨i, hi, hz, hsize, hby⟩ := info_parts Vl.Try.info9
  have hA : Below U.heap.size U (U.drew.alloc (.cells #[.string nm] 9)) := (Below.refl _ U).drew.alloc (Nat.le_refl _) _
  have hb0 : (U.drew.alloc (.cells #[.string nm] 9)).ownsRow 0 9 1 (.slice (some ⟨U.heap.size, 0, none⟩) 1 1) 1 [.string nm] := ⟨rfl, .inr ⟨_, 1, _, rfl, Nat.zero_le _, heap_alloc_new U.drew _, Nat.le_refl _, by decide, rfl, rfl⟩⟩
  obtain ⟨_, _, ee, hcap, hcm, hcell, _⟩ := own_open h hm1
  simp only [Value.slice.injEq, Option.some.injEq, Addr.mk.injEq, and_true, true_and] at ee
  obtain ⟨rfl, rfl⟩ := ee
  have hglt : g < U.heap.size := own_lt h rfl
  have hcU : ∀ j, j < m → U.cell? ⟨g, j, none⟩ = (nmRow Hs)[j]? := fun j hj => hcell j (by omega)
  have hrow : ∀ j, j < m → ∃ u, (nmRow Hs)[j]? = some u := fun j hj => ⟨_, List.getElem?_eq_getElem (by rw [nmRow_len]; omega)⟩
  obtain ⟨v', w2, hr, g1, gr, _, gb⟩ := run_append_own_at (P := Try.prog) (U.drew.alloc (.cells #[.string nm] 9)) 0 32 0 9 i (.string ⟨#[]⟩) 1 16 Try.underlying32 hi hz hsize hby rfl (by decide) (.slice (some ⟨U.heap.size, 0, none⟩) 1 1) 1 [.string nm] hb0 (tailA g cap k) (m - k) (cap - k) (nmRow (Hs.drop k)) (by rw [nmRow_len, List.length_drop]; omega) (fun j u hj => by
    have hj' : j < m - k := by
      have := (List.getElem?_eq_some_iff.1 hj).1
      rw [nmRow_len, List.length_drop] at this
      omega
    have e1 : (nmRow Hs)[k + j]? = some u := by
      rw [← hj]
      simp [nmRow]
    have e2 := hcU (k + j) (by omega)
    rw [e1] at e2
    have e3 := cell_bel e2 hA
    have e4 : tailA g cap k = ⟨g, k, none⟩ := if_neg (by omega)
    rw [e4, Addr.add_lit]
    exact e3) (nmRow_one _) (by simp only [maxLen]; omega) (by omega) (Nat.zero_le _)
  obtain ⟨g2, c2, rfl, _, _, hc2, _⟩ := own_open g1 (by omega)
  have hB2 : Below U.heap.size U w2 := hA.trans ((Vl.Fr.of_grown (F := fun b => b = U.heap.size) gr (fun b hb => by simpa [Value.ownBlock] using hb.symm)).below (fun b hb => by rw [hb]; exact Nat.le_refl _) hA.size)
  have hfit : Builtin.nextslicecap (k + (1 + (m - k))) k * i.bytes ≤ 281474976710656 := growslice_fits (by omega) (by rw [hby]; omega)
  have hr2 := fun ty => run_append_grow (P := Try.prog) w2 32 ty 9 i (.string ⟨#[]⟩) Try.underlying32 hi hz ⟨g, 0, none⟩ k k (nmRow (Hs.take k)) (by rw [nmRow_len, List.length_take, hsize]; omega) (fun j u hj => by
    have hj' : j < k := by
      have := (List.getElem?_eq_some_iff.1 hj).1
      rw [nmRow_len, List.length_take] at this
      omega
    have e1 : (nmRow Hs)[j]? = some u := by
      rw [← hj]
      simp [nmRow, hj']
    have e2 := hcU j (by omega)
    rw [e1] at e2
    have e3 := cell_bel e2 hB2
    rw [Addr.add_lit, Nat.zero_add]
    exact e3) ⟨g2, 0, none⟩ (1 + (m - k)) c2 ([.string nm] ++ nmRow (Hs.drop k)) (by rw [List.length_append, nmRow_len, List.length_drop, hsize]; simp; omega) (fun j u hj => by
    have hj' : j < 1 + (m - k) := by
      have := (List.getElem?_eq_some_iff.1 hj).1
      rw [List.length_append, nmRow_len, List.length_drop] at this
      simp at this
      omega
    have e2 := hc2 j (by omega)
    rw [hj] at e2
    rw [Addr.add_lit, Nat.zero_add]
    exact e2) (by omega) (by omega) hfit
  have em : k + (1 + (m - k)) = m + 1 := by omega
  rw [em] at hr2
  refine ⟨g2, c2, w2, _, _, _, fun ty => hr, hr2, ?_, hB2.trans ((Below.refl _ w2).drew.alloc (Nat.le_refl _) _ |>.mono hB2.size)⟩
  have h9 := grown_row w2 (.string ⟨#[]⟩) rfl (m + 1) k (nmRow (Hs.take k)) ([.string nm] ++ nmRow (Hs.drop k)) (by rw [List.length_append, List.length_append, nmRow_len, nmRow_len, List.length_take, List.length_drop]; simp; omega) (by omega)
  have e5 : nmRow (Hs.take k) ++ ([.string nm] ++ nmRow (Hs.drop k)) = nmRow (Hs.take k ++ nm :: Hs.drop k) := by simp [nmRow]
  rw [e5] at h9
  exact h9
end Go.Proofs.Ytdmhajeaphnebaa.Gr
namespace Go.Proofs.Ytdmhajeaphnebaa.Gr
open Go.RowKit
open Vl (Fr)
open Sy (isRs isRs_below Rul OkR)
open Rp (isRs_cells isRs_shape)
open Tj (memB memB_iff ixN ixN_lt HeadsOf hdN)
variable {w : World}
def Asc (L : List ByteArray) : Prop := L.Pairwise (fun a b => bsL a < bsL b)
/-- The heads of some rules, rising. -/
structure Hq (L : List ByteArray) (rs : List Rul) : Prop where
  asc : Asc L
  mem : ∀ x, x ∈ L ↔ ∃ r ∈ rs, hdN r = x
theorem Asc.nodup {L : List ByteArray} (h : Asc L) : L.Nodup := h.imp fun {a b} hab e => by rw [e] at hab; exact List.lt_irrefl _ hab
theorem Hq.heads {L : List ByteArray} {rs : List Rul} (h : Hq L rs) : HeadsOf L rs := ⟨h.asc.nodup, h.mem⟩
theorem Hq.skip {L : List ByteArray} {rs : List Rul} {i : Nat} (h : Hq L (rs.take i)) (hi : i < rs.length) (hm : rs[i].1.2.1 ∈ L) : Hq L (rs.take (i + 1)) := by
  refine ⟨h.asc, fun x => ?_⟩
  rw [h.mem, List.take_succ_eq_append_getElem hi]
  constructor
  · rintro ⟨r, hr, e⟩
    exact ⟨r, List.mem_append_left _ hr, e⟩
  · rintro ⟨r, hr, e⟩
    rcases List.mem_append.1 hr with hr | hr
    · exact ⟨r, hr, e⟩
    · have : r = rs[i] := by simpa using hr
      subst this
      rw [← h.mem, ← e]
      exact hm
theorem lt_of_not {a b : List UInt8} (h1 : ¬ a < b) (h2 : a ≠ b) : b < a := Classical.byContradiction fun h => h2 (List.le_antisymm (show a ≤ b from h) (show b ≤ a from h1))
theorem less_iff {a b : ByteArray} : Op.bytesLess a.toList b.toList = true ↔ bsL a < bsL b := by
  rw [bytesLess_eq, toL, toL, decide_eq_true_iff]
  rfl
theorem Hq.put {L : List ByteArray} {rs : List Rul} {i k : Nat} (h : Hq L (rs.take i)) (hi : i < rs.length) (hk : k ≤ L.length) (h1 : ∀ j, j < k → ∀ y, L[j]? = some y → bsL y < bsL rs[i].1.2.1) (h2 : ∀ y, L[k]? = some y → bsL rs[i].1.2.1 < bsL y) : Hq (L.take k ++ rs[i].1.2.1 :: L.drop k) (rs.take (i + 1)) := by
  have hsplit : L.take k ++ L.drop k = L := List.take_append_drop k L
  have ha := h.asc
  unfold Asc at ha
  rw [← hsplit, List.pairwise_append] at ha
  have hfront : ∀ a ∈ L.take k, bsL a < bsL rs[i].1.2.1 := fun a ha' => by
    obtain ⟨j, hj, e⟩ := List.mem_iff_getElem.1 ha'
    have hjk : j < k := by rw [List.length_take] at hj; omega
    exact h1 j hjk a (by rw [← e, List.getElem_take]; exact List.getElem?_eq_getElem _)
  have hback : ∀ b ∈ L.drop k, bsL rs[i].1.2.1 < bsL b := fun b hb => by
    cases hd : L.drop k with
    | nil => rw [hd] at hb; cases hb
    | cons y t =>
      have hy : L[k]? = some y := by
        have : (L.drop k)[0]? = some y := by rw [hd]; rfl
        simpa using this
      have h3 := h2 y hy
      rw [hd] at hb ha
      rcases List.mem_cons.1 hb with e | hb
      · rw [e]; exact h3
      · exact List.lt_trans h3 ((List.pairwise_cons.1 ha.2.1).1 b hb)
  refine ⟨?_, fun x => ?_⟩
  · unfold Asc
    rw [List.pairwise_append]
    refine ⟨ha.1, List.pairwise_cons.2 ⟨hback, ha.2.1⟩, fun a ha' b hb => ?_⟩
    rcases List.mem_cons.1 hb with e | hb
    · rw [e]; exact hfront a ha'
    · exact ha.2.2 a ha' b hb
  · rw [List.take_succ_eq_append_getElem hi]
    have e1 : x ∈ L.take k ++ rs[i].1.2.1 :: L.drop k ↔ x ∈ L ∨ x = rs[i].1.2.1 := by
      conv => rhs; rw [← hsplit]
      simp only [List.mem_append, List.mem_cons]
      constructor
      · rintro (h | h | h)
        · exact .inl (.inl h)
        · exact .inr h
        · exact .inl (.inr h)
      · rintro ((h | h) | h)
        · exact .inl h
        · exact .inr (.inr h)
        · exact .inr (.inl h)
    rw [e1, h.mem]
    constructor
    · rintro (⟨r, hr, e⟩ | e)
      · exact ⟨r, List.mem_append_left _ hr, e⟩
      · exact ⟨rs[i], List.mem_append_right _ (List.mem_singleton.2 rfl), e.symm⟩
    · rintro ⟨r, hr, e⟩
      rcases List.mem_append.1 hr with hr | hr
      · exact .inl ⟨r, hr, e⟩
      · have : r = rs[i] := by simpa using hr
        subst this
        exact .inr e.symm
set_option maxHeartbeats 8000000 in
set_option maxRecDepth 4000 in
theorem heads_any {rs : List Rul} {y : Value} (hR : isRs w rs y) (hl : rs.length ≤ 30) : Calls Try.prog 9 #[y] w fun x w2 => ∃ v, x = .returned v ∧ ∃ Hs, w2.ownsRow 0 9 1 v Hs.length (nmRow Hs) ∧ Hq Hs rs ∧ Below w.heap.size w w2 := by
  obtain ⟨ao, cap, rfl⟩ := isRs_shape hR
  have HR := hide hR
  have hlI : (rs.length : Int) ≤ 30 := by omega
  clear hR
  go_enter Try.func9, Try.ntmps9
  go_wp2_with fail
  go_loopw [3, 4] (fun lv iv wr => ∃ (i : Nat) (Hs : List ByteArray), iv = .int .i64 (i : Int) ∧ i ≤ rs.length ∧ Hid (wr.ownsRow 0 9 1 lv Hs.length (nmRow Hs) ∧ Hq Hs (rs.take i) ∧ Below w.heap.size w wr ∧ Hs.length ≤ i ∧ (Hs = [] → lv = .slice none 0 0))) (fun _ iv _ => rs.length - (intOf iv).toNat)
  case atStart => exact ⟨0, [], rfl, Nat.zero_le _, ⟨rfl, .inl ⟨rfl, rfl⟩⟩, ⟨List.Pairwise.nil, fun x => by simp⟩, Below.refl _ _, Nat.le_refl _, fun _ => rfl⟩
  case round =>
    obtain ⟨i, Hs, rfl, hi, HI⟩ := hrel
    have HME : Hid (i < rs.length → rs.length - (intOf (.int .i64 ((i : Int) + 1))).toNat < rs.length - (intOf (.int .i64 (i : Int))).toNat) := fun h => by
      simp [intOf]; omega
    obtain ⟨la, lc, hlv⟩ := own_sl HI.out.1
    subst hlv
    have hm30 : Hs.length ≤ 30 := by have := HI.out.2.2.2.1; omega
    by_cases hlt : i < rs.length
    · have hltI : (i : Int) < (rs.length : Int) := by omega
      obtain ⟨g, rfl, hc⟩ := (isRs_cells (isRs_below HR.out HI.out.2.2.1)).2 (by omega)
      obtain ⟨_, _, _, _, _, x1, _, _⟩ := hc i hlt
      have HSk : Hid (rs[i].1.2.1 ∈ Hs → Hq Hs (rs.take (i + 1))) := fun h => HI.out.2.1.skip hlt h
      have HPu : Hid (∀ k, k ≤ Hs.length → (∀ j, j < k → ∀ y, Hs[j]? = some y → bsL y < bsL rs[i].1.2.1) → (∀ y, Hs[k]? = some y → bsL rs[i].1.2.1 < bsL y) → Hq (Hs.take k ++ rs[i].1.2.1 :: Hs.drop k) (rs.take (i + 1))) := fun k hk h1 h2 => HI.out.2.1.put hlt hk h1 h2
      clear hc
      generalize rs[i].1.2.1 = nm at *
      obtain ⟨m, hm⟩ : ∃ m, m = Hs.length := ⟨_, rfl⟩
      have HMm := hide hm
      have hrow := HI.out.1
      rw [← hm] at hrow hm30
      simp only [← hm]
      have hmI : (m : Int) ≤ 30 := by omega
      have HW := hide hrow
      clear hm hrow
      go_wp2_with fail
      clear x1
      go_loopw [6] (fun kv wq => ∃ k : Nat, kv = .int .i64 (k : Int) ∧ k ≤ m ∧ Hid (∀ j, j < k → ∀ y, Hs[j]? = some y → bsL y < bsL nm) ∧ wq = wr) (fun kv _ => m - (intOf kv).toNat)
      case atStart => exact ⟨0, rfl, Nat.zero_le _, (fun j hj => absurd hj (Nat.not_lt_zero _)), rfl⟩
      case round =>
        obtain ⟨k, rfl, hk, HK, hwq⟩ := hrel
        have hwq' := hwq.symm
        subst hwq'
        clear hwq
        by_cases hkm : k < m
        · have hkI : (k : Int) < (m : Int) := by omega
          have hkL : k < Hs.length := by rw [← HMm.out]; exact hkm
          obtain ⟨lg, lc', el, hcap, -, hlc, -⟩ := own_open HW.out (by omega)
          simp only [Value.slice.injEq, true_and] at el
          obtain ⟨rfl, rfl⟩ := el
          have z0 : wr.cell? ⟨lg, k, none⟩ = some (.string Hs[k]) := (hlc k (by omega)).trans (by simp [nmRow, hkL])
          have hgk : Hs[k]? = some Hs[k] := List.getElem?_eq_getElem hkL
          generalize Hs[k] = nk at *
          clear hlc
          cases hb : Op.bytesLess nk.toList nm.toList with
          | true =>
            have HN : Hid (∀ j, j < k + 1 → ∀ y, Hs[j]? = some y → bsL y < bsL nm) := fun j hj y hy => by
              by_cases e : j = k
              · rw [e, hgk] at hy
                cases hy
                exact less_iff.1 hb
              · exact HK.out j (by omega) y hy
            clear hgk
            go_wp2_with fail
            refine ⟨⟨k + 1, by simp, by omega, HN, trivial⟩, ?_⟩
            show m - (intOf (.int .i64 ((k : Int) + 1))).toNat < m - (intOf (.int .i64 (k : Int))).toNat
            simp [intOf]
            omega
          | false =>
            have hne : ((k : Int) == (m : Int)) = false := by simp; omega
            cases he : (nk.toList == nm.toList) with
            | true =>
              have e : nk = nm := ba_eq.1 he
              have HN : Hid (Hq Hs (rs.take (i + 1))) := HSk.out (by rw [← e]; exact List.mem_of_getElem? hgk)
              clear hgk e
              go_wp2_with fail
              refine ⟨⟨i + 1, Hs, by simp, by omega, ?_⟩, HME.out hlt⟩
              have h := HI.out
              rw [← HMm.out] at h ⊢
              exact ⟨h.1, HN.out, h.2.2.1, by omega, h.2.2.2.2⟩
            | false =>
              have h2f : ∀ y, Hs[k]? = some y → bsL nm < bsL y := fun y hy => by
                rw [hgk] at hy
                cases hy
                refine lt_of_not (fun h => by rw [less_iff.2 h] at hb; cases hb) (fun h => ?_)
                rw [ba_eq.2 (bsL_inj h)] at he
                cases he
              clear hgk
              obtain ⟨g2, c2, w2, g4, c4, w4, hr1, hr2, HW4, HB4⟩ := ins_some (nm := nm) (k := k) HW.out HMm.out.symm (by omega) hk (by omega)
              have HN : Hid (w4.ownsRow 0 9 1 (.slice (some ⟨g4, 0, none⟩) (m + 1) c4) (Hs.take k ++ nm :: Hs.drop k).length (nmRow (Hs.take k ++ nm :: Hs.drop k)) ∧ Hq (Hs.take k ++ nm :: Hs.drop k) (rs.take (i + 1)) ∧ Below w.heap.size w w4 ∧ (Hs.take k ++ nm :: Hs.drop k).length ≤ i + 1 ∧ (Hs.take k ++ nm :: Hs.drop k = [] → Value.slice (some ⟨g4, 0, none⟩) (m + 1) c4 = .slice none 0 0)) := by
                have el : (Hs.take k ++ nm :: Hs.drop k).length = m + 1 := by rw [List.length_append, List.length_cons, List.length_take, List.length_drop, HMm.out]; have := hk; omega
                refine ⟨by rw [el]; exact HW4.out, HPu.out k (by rw [← HMm.out]; exact hk) HK.out h2f, HI.out.2.2.1.trans (HB4.out.mono HI.out.2.2.1.size), ?_, fun h => by simp at h⟩
                rw [el, HMm.out]
                have := HI.out.2.2.2.1
                omega
              obtain ⟨M, HMM⟩ : ∃ M, Hid (M = m + 1) := ⟨_, rfl⟩
              rw [← HMM.out] at hr2 HN
              clear HW4 HB4
              have hs1 := fun W => sl_hm W (some ⟨lg, 0, none⟩) m lc k (by omega)
              have hs2 := fun W => sl_l W lg m lc k hk
              go_upto_region 10 with fail
              refine wp_region_noPanic ?_
              go_region_law (first
                | (refine Vl.step_append_run rfl (.tmp 50) (.tmp 53) 32 32 rfl (.slice (some ⟨wr.heap.size, 0, none⟩) 1 1) (.slice (some (tailA lg lc k)) (m - k) (lc - k)) (by simp [Act.eval]) (by simp [Act.eval]) (hr1 _) ?_)
                | (refine Vl.step_append_run rfl (.tmp 48) (.tmp 54) 32 32 rfl (.slice (some ⟨lg, 0, none⟩) k k) (.slice (some ⟨g2, 0, none⟩) (1 + (m - k)) c2) (by simp [Act.eval]) (by simp [Act.eval]) (hr2 _) ?_))
              all_goals refine NoPanic.normal ?_
              all_goals clear hr1 hr2 hs1 hs2
              all_goals go_wp2_with fail
              all_goals exact ⟨⟨i + 1, _, by simp, by omega, HN.out⟩, HME.out hlt⟩
        · have hke : k = m := by omega
          have hge : ¬ ((k : Int) < (m : Int)) := by omega
          have hne : ((k : Int) == (m : Int)) = true := by simp; omega
          have h2f : ∀ y, Hs[k]? = some y → bsL nm < bsL y := fun y hy => by
            rw [hke, HMm.out, List.getElem?_eq_none (Nat.le_refl _)] at hy
            cases hy
          have HKE := hide hke
          clear hke
          by_cases hm0 : m = 0
          · have hHs : Hs = [] := List.eq_nil_of_length_eq_zero (by rw [← HMm.out]; exact hm0)
            have hlv := HI.out.2.2.2.2 hHs
            simp only [Value.slice.injEq] at hlv
            obtain ⟨rfl, -, rfl⟩ := hlv
            subst hm0
            have hk0 : k = 0 := HKE.out
            subst hk0
            have hnil : wr.drew.ownsRow 0 9 1 (.slice none 0 0) 0 [] := ⟨rfl, .inl ⟨rfl, rfl⟩⟩
            obtain ⟨g4, c4, w4, hr2, k1, k2, k3⟩ := push_row 32 9 1 16 _ Try.underlying32 Vl.Try.info9 rfl (by decide) (by decide) (W := wr.drew) hnil [.string nm] rfl (by simp [Value.oneCell']) (by omega)
            have HN : Hid (w4.ownsRow 0 9 1 (.slice (some ⟨g4, 0, none⟩) 1 c4) [nm].length (nmRow [nm]) ∧ Hq [nm] (rs.take (i + 1)) ∧ Below w.heap.size w w4 ∧ [nm].length ≤ i + 1 ∧ ([nm] = [] → Value.slice (some ⟨g4, 0, none⟩) 1 c4 = .slice none 0 0)) := by
              refine ⟨k1.out, ?_, ?_, by simp, fun h => by cases h⟩
              · have h := HPu.out 0 (Nat.zero_le _) HK.out h2f
                rw [hHs] at h
                exact h
              · have h1 : Below wr.heap.size wr w4 := ((Below.refl _ wr).drew.trans (k2.out.below (B := wr.heap.size) (fun b hb => by simp [Value.ownBlock] at hb) (Nat.le_refl _)))
                exact HI.out.2.2.1.trans (h1.mono HI.out.2.2.1.size)
            have hr1 := fun ty => run_app_nil (wr.drew.alloc (.cells #[.string nm] 9)) ⟨wr.heap.size, 0, none⟩ ty
            have hr2' : ∀ ty, (Builtin.append_ #[32, 32] ty #[.slice none 0 0, .slice (some ⟨wr.heap.size, 0, none⟩) 1 1]).run Try.prog (wr.drew.alloc (.cells #[.string nm] 9)) = .ok (.slice (some ⟨g4, 0, none⟩) 1 c4) w4 := hr2
            have hs1 : ∀ W, (Instr.slice 32 (.slice none 0 0) none (some (.int .i64 0)) (some (.int .i64 0))).run Try.prog W = .ok (.slice none 0 0) W := fun W => sl_hm W none 0 0 0 (Nat.le_refl _)
            have hs2 : ∀ W, (Instr.slice 32 (.slice none 0 0) (some (.int .i64 0)) none none).run Try.prog W = .ok (.slice none 0 0) W := fun W => sl_n W
            clear k1 k2 k3 hr2 hnil hHs
            go_upto_region 10 with fail
            refine wp_region_noPanic ?_
            go_region_law (first
              | (refine Vl.step_append_run rfl (.tmp 50) (.tmp 53) 32 32 rfl (.slice (some ⟨wr.heap.size, 0, none⟩) 1 1) (.slice none 0 0) (by simp [Act.eval]) (by simp [Act.eval]) (hr1 _) ?_)
              | (refine Vl.step_append_run rfl (.tmp 48) (.tmp 54) 32 32 rfl (.slice none 0 0) (.slice (some ⟨wr.heap.size, 0, none⟩) 1 1) (by simp [Act.eval]) (by simp [Act.eval]) (hr2' _) ?_))
            all_goals refine NoPanic.normal ?_
            all_goals clear hr1 hr2' hs1 hs2
            all_goals go_wp2_with fail
            all_goals exact ⟨⟨i + 1, [nm], by simp, by omega, HN.out⟩, HME.out hlt⟩
          · obtain ⟨lg, lc', el, hcap, -, hlc, -⟩ := own_open HW.out (by omega)
            simp only [Value.slice.injEq, true_and] at el
            obtain ⟨rfl, rfl⟩ := el
            clear hlc
            obtain ⟨g2, c2, w2, g4, c4, w4, hr1, hr2, HW4, HB4⟩ := ins_some (nm := nm) (k := k) HW.out HMm.out.symm (by omega) hk (by omega)
            have HN : Hid (w4.ownsRow 0 9 1 (.slice (some ⟨g4, 0, none⟩) (m + 1) c4) (Hs.take k ++ nm :: Hs.drop k).length (nmRow (Hs.take k ++ nm :: Hs.drop k)) ∧ Hq (Hs.take k ++ nm :: Hs.drop k) (rs.take (i + 1)) ∧ Below w.heap.size w w4 ∧ (Hs.take k ++ nm :: Hs.drop k).length ≤ i + 1 ∧ (Hs.take k ++ nm :: Hs.drop k = [] → Value.slice (some ⟨g4, 0, none⟩) (m + 1) c4 = .slice none 0 0)) := by
              have el : (Hs.take k ++ nm :: Hs.drop k).length = m + 1 := by rw [List.length_append, List.length_cons, List.length_take, List.length_drop, HMm.out]; have := hk; omega
              refine ⟨by rw [el]; exact HW4.out, HPu.out k (by rw [← HMm.out]; exact hk) HK.out h2f, HI.out.2.2.1.trans (HB4.out.mono HI.out.2.2.1.size), ?_, fun h => by simp at h⟩
              rw [el, HMm.out]
              have := HI.out.2.2.2.1
              omega
            obtain ⟨M, HMM⟩ : ∃ M, Hid (M = m + 1) := ⟨_, rfl⟩
            rw [← HMM.out] at hr2 HN
            clear HW4 HB4
            have hs1 := fun W => sl_hm W (some ⟨lg, 0, none⟩) m lc k (by omega)
            have hs2 := fun W => sl_l W lg m lc k hk
            go_upto_region 10 with fail
            refine wp_region_noPanic ?_
            go_region_law (first
              | (refine Vl.step_append_run rfl (.tmp 50) (.tmp 53) 32 32 rfl (.slice (some ⟨wr.heap.size, 0, none⟩) 1 1) (.slice (some (tailA lg lc k)) (m - k) (lc - k)) (by simp [Act.eval]) (by simp [Act.eval]) (hr1 _) ?_)
              | (refine Vl.step_append_run rfl (.tmp 48) (.tmp 54) 32 32 rfl (.slice (some ⟨lg, 0, none⟩) k k) (.slice (some ⟨g2, 0, none⟩) (1 + (m - k)) c2) (by simp [Act.eval]) (by simp [Act.eval]) (hr2 _) ?_))
            all_goals refine NoPanic.normal ?_
            all_goals clear hr1 hr2 hs1 hs2
            all_goals go_wp2_with fail
            all_goals exact ⟨⟨i + 1, _, by simp, by omega, HN.out⟩, HME.out hlt⟩
    · have hie : i = rs.length := by omega
      have hge : ¬ ((i : Int) < (rs.length : Int)) := by omega
      have HE : Hid (wr.ownsRow 0 9 1 (.slice la Hs.length lc) Hs.length (nmRow Hs) ∧ Hq Hs rs ∧ Below w.heap.size w wr) := ⟨HI.out.1, by have h := HI.out.2.1; rw [hie, List.take_length] at h; exact h, HI.out.2.2.1⟩
      clear HI
      go_wp2_with fail
      go_ret
      exact ⟨_, rfl, Hs, HE.out⟩
end Go.Proofs.Ytdmhajeaphnebaa.Gr
namespace Go.Proofs.Ytdmhajeaphnebaa.Gr
open Go.RowKit
open Vl (Fr)
open Sy (isRs isRs_below Rul OkR)
open Tj (memB memB_iff ixN ixN_lt ndOf ndOf_bnd hdN idsOf idsOf_len heads_ids Sol NSol NLeast name_least name_none)
variable {w0 w w' : World}
theorem Try.info32 : (Try.prog.info? 32).map (fun i => (i.zero, i.size, i.bytes)) = some (some (.slice none 0 0), 1, 24) := by kernel_rfl
theorem make_nilsS (n : Nat) (hl : n ≤ 1000) (W : World) : (Instr.makeSlice 29 (.int .i64 (n : Int)) (.int .i64 (n : Int))).run Try.prog W = .ok (.slice (some ⟨W.heap.size, 0, none⟩) n n) (W.alloc (.cells ((List.range n).map (fun _ => Value.slice none 0 0)).toArray 32)) := by
  obtain ⟨i, hi, hz, hsize, hby⟩ := info_parts Try.info32
  have h := run_make (P := Try.prog) W 29 32 i (.slice none 0 0) Try.underlying29 hi hz .i64 .i64 (n : Int) (n : Int) (by omega) (by omega) (by rw [hby]; omega) (by omega)
  rw [hsize, Nat.mul_one] at h
  simp only [Int.toNat_natCast] at h
  rw [made_nils] at h
  exact h
/-- What Order tells. -/
def OrdR (rs : List Rul) (w : World) (x : Ending) (w2 : World) : Prop := Below w.heap.size w w2 ∧ ((∃ go co h V S s, x = .returned (.tuple #[.slice (some ⟨go, 0, none⟩) h co, .int .i64 0]) ∧ (w2.ownsRow 0 32 1 (.slice (some ⟨go, 0, none⟩) h co) h ((List.range h).map V) ∧ ∀ k, k < h → w2.ownsRow 0 9 1 (V k) (lev s S k).length (nmRow (lev s S k))) ∧ S.Perm (idsOf rs) ∧ S.Pairwise (fun a b => bsL a ≤ bsL b) ∧ NLeast rs s ∧ (∀ x ∈ S, s x < (h : Int)) ∧ (h = 0 ∨ ∃ x ∈ S, s x + 1 = (h : Int))) ∨ (x = .returned (.tuple #[.slice none 0 0, .int .i64 7]) ∧ ∀ t, ¬ NSol rs t))
def ofB (b : List UInt8) : ByteArray := ⟨b.toArray⟩
theorem bsL_ofB (b : List UInt8) : bsL (ofB b) = b := rfl
theorem ofB_bsL (x : ByteArray) : ofB (bsL x) = x := by cases x; rfl
/-- The sorted names. -/
theorem sorted_names {L : List ByteArray} {ks ss : List (List UInt8)} (h1 : ss.Perm ks) (h2 : ks.Perm (L.map bsL)) : ∃ S : List ByteArray, (ss.mergeSort (fun x y => decide (x ≤ y))).map encStr = nmRow S ∧ S.length = ss.length ∧ S.Perm L ∧ S.Pairwise (fun a b => bsL a ≤ bsL b) := by
  have tr : ∀ a b c : List UInt8, decide (a ≤ b) = true → decide (b ≤ c) = true → decide (a ≤ c) = true := fun a b c h k => decide_eq_true (List.le_trans (of_decide_eq_true h) (of_decide_eq_true k))
  have tot : ∀ a b : List UInt8, (decide (a ≤ b) || decide (b ≤ a)) = true := fun a b => by
    rcases List.le_total a b with h | h
    · simp [h]
    · simp [h]
  have hs := List.pairwise_mergeSort tr tot ss
  refine ⟨(ss.mergeSort (fun x y => decide (x ≤ y))).map ofB, by simp [nmRow, encStr, ofB], by simp, ?_, ?_⟩
  · have h3 := (((List.mergeSort_perm ss (fun x y => decide (x ≤ y))).trans h1).trans h2).map ofB
    have e : (L.map bsL).map ofB = L := by
      rw [List.map_map]
      conv => rhs; rw [← List.map_id L]
      exact List.map_congr_left fun x _ => ofB_bsL x
    rw [e] at h3
    exact h3
  · exact List.Pairwise.map _ (fun a b hab => of_decide_eq_true hab) hs
theorem Ns.first {Wb : World} {go n : Nat} (hg : Wb.heap[go]? = some (.cells ((List.range n).map (fun _ => Value.slice none 0 0)).toArray 32 (0, 0))) (hn : n ≤ 1000) : Ns Wb Wb go n n (fun _ => .slice none 0 0) (fun _ => []) :=
  ⟨Fr.refl _ _, ⟨by simp, .inr ⟨go, n, _, rfl, Nat.zero_le _, hg, Nat.le_refl _, by simp only [maxLen]; omega, by simp, by simp [List.take_of_length_le]⟩⟩, fun _ _ => ⟨rfl, .inl ⟨rfl, rfl⟩⟩, fun _ _ _ _ _ => (fun k hk => by simp [Value.ownBlock] at hk), fun _ _ b hb => by simp [Value.ownBlock] at hb, (Array.getElem?_eq_some_iff.1 hg).1⟩
set_option maxHeartbeats 8000000 in
set_option maxRecDepth 4000 in
theorem order_any {rs : List Rul} {y : Value} (hR : isRs w rs y) (hok : OkRs rs) : Calls Try.prog 8 #[y] w fun x w2 => OrdR rs w x w2 := by
  obtain ⟨ao, cap, hy⟩ := Rp.isRs_shape hR
  have HO := hide (of_any hR hok)
  have hl30 : (idsOf rs).length ≤ 30 := Nat.le_trans (idsOf_len rs) hok.1
  subst hy
  clear hR hok
  go_enter Try.func8, Try.ntmps8
  go_wp2_with fail
  refine Calls.mono HO.out ?_
  rintro x w1 ⟨hb1, ⟨ob, L, s, rfl, hmp, hperm, hleast, hob⟩ | ⟨rfl, hno⟩⟩
  · have hLlen : L.length ≤ 30 := by rw [hperm.length_eq]; exact hl30
    have hfs : ∀ x ∈ L, 0 ≤ s x ∧ s x < 30 := fun x hx => by
      obtain ⟨r, hr, e⟩ := ((heads_ids rs).mem x).1 (hperm.mem_iff.1 hx)
      have h1 := hleast.sol.nn r hr
      have h2 := hleast.small r hr
      rw [e] at h1 h2
      omega
    obtain ⟨nn, D, hnn, hown, hsize, hhas, hat0⟩ := hmp.ex
    have HK := hide (hmp.keys hown hsize hhas)
    have HF := hide hfs
    have HP := hide hperm
    have HL := hide hleast
    have HB1 := hide hb1
    have HM := hide hmp
    have HW := hide hown
    clear HO
    go_wp2_with (first
      | (at_range; refine wpList_range_own _ rfl _ 25 rfl 9 3 law9 Try.underlying25 heldR ob nn D rfl hown ?_; intro w4 hrg4 hg4 hs4)
      | go_in)
    go_frame
    obtain ⟨r, hr⟩ : ∃ r, r = w1.heap.size := ⟨_, rfl⟩
    have hf4 : Fr (fun _ => False) w1 w4 := Vl.Fr.of_grown hg4 (fun k hk => by cases hk)
    have HI : Hid (Rh w w4 ob r nn D (Maps.has D) (Maps.size D) L s 0) := ⟨by rw [hr]; exact hrg4, hhas, hat0, hmp.fr hf4 id, fun x hx => memB_iff.1 (by rw [← hhas]; exact hx), (fun x hx hl => by rw [hhas, memB_iff.2 hx] at hl; cases hl), .inl rfl, Int.le_refl _, hb1.trans (hf4.below (fun _ hk => hk.elim) hb1.size), by rw [hr]; exact hb1.size⟩
    rw [← hr]
    clear hrg4 hg4 hs4 hown hmp hb1 hleast hperm hfs hf4 hr hhas hat0
    go_loopw [6, 8] (fun hv _ wr => ∃ (left : Lit → Bool) (cnt : Nat) (h : Int), hv = .int .i64 h ∧ h ≤ 30 ∧ Hid (Rh w wr ob r nn D left cnt L s h)) (fun _ _ wr => wr.rangeLeft ob r)
    case atStart => exact ⟨_, _, 0, rfl, by omega, HI.out⟩
    case round =>
      obtain ⟨left, cnt, h, rfl, hh30, HR⟩ := hrel
      clear HI
      have hh0 := HR.out.nn
      go_wp2_with (first
        | (at_next; refine wpList_next_ranges _ rfl _ rfl 9 law9 heldR Value.string (fun v => v) (fun key kl hk => key_string hk) (fun v y _ => ⟨v, rfl⟩) ob r nn D left cnt rfl HR.out.rg ?_ ?_)
        | go_in)
      · intro hc0 hl0
        obtain ⟨hn, rfl⟩ : ∃ hn : Nat, h = (hn : Int) := ⟨h.toNat, by omega⟩
        have HX : Hid ((∀ x ∈ L, s x < (hn : Int)) ∧ (hn = 0 ∨ ∃ x ∈ L, s x + 1 = (hn : Int))) := ⟨fun x hx => by have := HR.out.ub x hx (hl0 _); omega, by
          rcases HR.out.lb with h1 | ⟨x, hx, h1⟩
          · exact .inl (by omega)
          · exact .inr ⟨x, hx, h1.symm⟩⟩
        have hmk := make_nilsS hn (by omega)
        obtain ⟨W2, hW2⟩ : ∃ W2, W2 = wr.alloc (.cells ((List.range hn).map (fun _ => Value.slice none 0 0)).toArray 32) := ⟨_, rfl⟩
        have hA : Below wr.heap.size wr W2 := by rw [hW2]; exact (Below.refl _ _).alloc (Nat.le_refl _) _
        have hgo : W2.heap[wr.heap.size]? = some (.cells ((List.range hn).map (fun _ => Value.slice none 0 0)).toArray 32 (0, 0)) := by rw [hW2]; exact heap_alloc_new _ _
        have hown2 : W2.ownsMap Try.prog 9 heldR ob nn D := by rw [hW2]; exact HR.out.rg.owns.alloc _
        have HMW := hide (HR.out.mp.below hA)
        have HZ2 : Hid (Below w.heap.size w W2) := HR.out.z.trans (hA.mono HR.out.z.size)
        have HK1 := hide (callsIn_wide.1 (Try.maps_Keys_20 (some ob) W2))
        have HS1 := hide (callsIn_wide.1 (Try.slices_Sorted_keys_19_20 ob nn D heldR W2 hown2 (by rw [hsize]; unfold maxLen; omega) (by rw [hsize]; omega)))
        have HGO := hide hgo
        have hhI : (hn : Int) ≤ 30 := hh30
        obtain ⟨go, hgoe⟩ : ∃ go, go = wr.heap.size := ⟨_, rfl⟩
        rw [← hgoe] at HGO
        have HGl : Hid (w.heap.size ≤ go) := by show _ ≤ _; rw [hgoe]; exact HR.out.z.size
        have EG := hide hgoe
        have EW := hide hW2
        clear hA hgo hown2 hW2 hgoe HR hl0 hh30 hh0
        go_upto_region 10 with fail
        rw [← EW.out, ← EG.out]
        clear EW EG hmk
        go_wp2_with fail
        refine Calls.mono HK1.out ?_
        rintro e w6 ⟨rfl, hw6⟩
        subst hw6
        go_wp2_with fail
        refine Calls.mono HS1.out ?_
        rintro e Wb ⟨v, ss, rfl, hS, hrow, hnil, hb⟩
        obtain ⟨S, hSr, hSl, hSp, hSs⟩ := sorted_names hS HK.out
        rw [hSr] at hrow
        have hAb : Below W2.heap.size W2 Wb := ((Below.refl _ W2).alloc (Nat.le_refl _) _).trans (hb.mono (by simp))
        have HN0 : Hid (Ns Wb Wb go hn hn (fun _ => .slice none 0 0) (lev s ([] : List ByteArray))) := Ns.first ((hAb.block go (Array.getElem?_eq_some_iff.1 HGO.out).1).trans HGO.out) (by omega)
        have HGb := hide ((hAb.block go (Array.getElem?_eq_some_iff.1 HGO.out).1).trans HGO.out)
        have HMb := hide (HMW.out.below hAb)
        have HZb : Hid (Below w.heap.size w Wb) := HZ2.out.trans (hAb.mono HZ2.out.size)
        have hrow0 : Wb.ownsRow 0 9 1 v S.length (nmRow S) := by rw [hSl]; exact ownsRow_base_a hrow (Nat.zero_le _)
        have HRo := hide hrow0
        have hSlen : S.length ≤ 30 := by rw [hSp.length_eq]; exact hLlen
        have hSI : (S.length : Int) ≤ 30 := by omega
        have HSp := hide (And.intro hSp hSs)
        obtain ⟨va, vc, rfl⟩ := own_sl hrow0
        clear HK1 HS1 hS hrow hnil hb hSr hSl hSp hSs hAb hrow0 HMW HZ2 HGO
        go_wp2_with fail
        go_loopw [11, 36] (fun _ jv wq => ∃ (j : Nat) (V : Nat → Value), jv = .int .i64 (j : Int) ∧ j ≤ S.length ∧ Hid (Ns Wb wq go hn hn V (lev s (S.take j)))) (fun _ jv _ => S.length - (intOf jv).toNat)
        case atStart => exact ⟨0, _, rfl, Nat.zero_le _, HN0.out⟩
        case round =>
          obtain ⟨j, V, rfl, hj, HJ⟩ := hrel
          clear HN0
          have HME : Hid (j < S.length → S.length - (intOf (.int .i64 ((j : Int) + 1))).toNat < S.length - (intOf (.int .i64 (j : Int))).toNat) := fun h => by
            simp [intOf]; omega
          by_cases hlt : j < S.length
          · have hltI : (j : Int) < (S.length : Int) := by omega
            have hvr : wr.ownsRow 0 9 1 (.slice va S.length vc) S.length (nmRow S) := own_of_cell HRo.out HJ.out.fr (fun k hk hu => by
              subst hk
              exact own_ty HRo.out HGb.out (by decide) hu)
            obtain ⟨vg, vc', ev, -, -, hvc, -⟩ := own_open hvr (by omega)
            simp only [Value.slice.injEq, true_and] at ev
            obtain ⟨rfl, rfl⟩ := ev
            have x0 : wr.cell? ⟨vg, j, none⟩ = some (.string S[j]) := (hvc j (by omega)).trans (by simp [nmRow, hlt])
            have hxL : S[j] ∈ L := HSp.out.1.mem_iff.1 (List.getElem_mem hlt)
            have hmb := HMb.out.fr HJ.out.fr (fun e => by obtain ⟨es, c, hbk⟩ := HMb.out.blk; have e' : ob = go := e; rw [e', HGb.out] at hbk; simp at hbk)
            have hsx := HF.out _ hxL
            have hsh := HX.out.1 _ hxL
            obtain ⟨i, hi⟩ : ∃ i : Nat, s S[j] = (i : Int) := ⟨(s S[j]).toNat, by omega⟩
            have hih : i < hn := by omega
            have htk : S.take (j + 1) = S.take j ++ [S[j]] := List.take_succ_eq_append_getElem hlt
            have hle := lev_snoc (S := S.take j) hi
            generalize S[j] = x at *
            have hget : ∀ W, Below wr.heap.size wr W → (Instr.lookup 25 (.map (some ob)) (.string x) false).run Try.prog W = .ok (.int .i64 (i : Int)) W := fun W hB => by
              have := (hmb.below hB).get hxL
              rw [hi] at this
              exact this
            have hrow := HJ.out.r i hih
            obtain ⟨R, HRr⟩ : ∃ R, Hid (R = lev s (S.take j) i) := ⟨_, rfl⟩
            rw [← HRr.out] at hrow
            have hRl : R.length ≤ 30 := by
              have h1 : R.length ≤ (S.take j).length := by rw [HRr.out]; exact List.length_filter_le _ _
              rw [List.length_take] at h1
              omega
            obtain ⟨g', c', w3, hr, k1, k2, k3⟩ := push_row 32 9 1 16 _ Try.underlying32 Vl.Try.info9 rfl (by decide) (by decide) (W := wr.drew) hrow [.string x] rfl (by simp [Value.oneCell']) (by omega)
            obtain ⟨_, _, ee, -, -, hoc, hof⟩ := own_open HJ.out.o (by omega)
            simp only [Value.slice.injEq, Option.some.injEq, Addr.mk.injEq, and_true, true_and] at ee
            obtain ⟨rfl, rfl⟩ := ee
            have q0 : wr.cell? ⟨go, i, none⟩ = some (V i) := (hoc i (by omega)).trans (by simp [hih])
            have qf := hof i
            have hgn : ¬ (V i).ownBlock = some go := fun h => by
              obtain ⟨cur, hg⟩ := own_blk HJ.out.o (k := go) rfl
              exact own_ty hrow hg (by decide) h
            have q3 := k2.out.cell (w := wr.drew) q0 hgn
            have qf3 := (k2.out.frozen (w := wr.drew) q0 hgn).trans qf
            have q0a := cell_alloc q0
            have hgD := hget wr.drew (Below.refl _ _).drew
            have hgA : ∀ o, (Instr.lookup 25 (.map (some ob)) (.string x) false).run Try.prog (wr.drew.alloc o) = .ok (.int .i64 (i : Int)) (wr.drew.alloc o) := fun o => hget _ ((Below.refl _ _).drew.alloc (Nat.le_refl _) o)
            have hgB : ∀ o, (Instr.lookup 25 (.map (some ob)) (.string x) false).run Try.prog (wr.alloc o).drew = .ok (.int .i64 (i : Int)) (wr.alloc o).drew := fun o => hget _ ((Below.refl _ _).alloc (Nat.le_refl _) o).drew
            have hg3 : (Instr.lookup 25 (.map (some ob)) (.string x) false).run Try.prog w3 = .ok (.int .i64 (i : Int)) w3 := by
              have h1 := (hmb.fr ((Fr.refl _ wr).drew.trans k2.out (fun _ _ h => h)) (own_nmap hrow hmb)).get hxL
              rw [hi] at h1
              exact h1
            obtain ⟨M, HMl⟩ : ∃ M, Hid (M = R.length + 1) := ⟨_, rfl⟩
            have HQ : Hid (Ns Wb (w3.setCell ⟨go, i, none⟩ (.slice (some ⟨g', 0, none⟩) M c')) go hn hn (upd V i (.slice (some ⟨g', 0, none⟩) M c')) (lev s (S.take (j + 1)))) := by
              have h1 := HJ.out.push (x := x) hih (w3 := w3) (g := g') (c := c') (by rw [← HRr.out]; exact k1.out) (((Fr.refl _ wr).drew.trans k2.out (fun _ _ h => h))) (by rw [← HRr.out]; exact k3.out)
              rw [hle, ← HRr.out, ← HMl.out] at h1
              rw [htk]
              exact h1
            rw [← HMl.out] at hr
            have hr' : ∀ ty, (Builtin.append_ #[32, 32] ty #[V i, .slice (some ⟨wr.heap.size, 0, none⟩) 1 1]).run Try.prog (wr.drew.alloc (.cells #[.string x] 9)) = .ok (.slice (some ⟨g', 0, none⟩) M c') w3 := hr
            have hiI : (i : Int) < (hn : Int) := by omega
            have hwi : IntKind.i64.wrap (i : Int) = (i : Int) := by rw [IntKind.wrap_i64]; omega
            clear hr k1 k2 k3 hrow hoc hof hgn hmb hsx hsh hi hle htk hxL hget hvc hvr HRr HMl hRl HJ
            go_upto_region 13 with fail
            clear x0
            refine wp_region_noPanic ?_
            go_region_law (refine Vl.step_append_run rfl (.tmp 49) (.tmp 51) 32 32 rfl (V i) (.slice (some ⟨wr.heap.size, 0, none⟩) 1 1) (by simp [Act.eval]) (by simp [Act.eval]) (hr' _) ?_)
            all_goals refine NoPanic.normal ?_
            all_goals clear hr' q0 q0a q3 qf qf3 hgD hgA hgB hg3
            all_goals go_wp2_with fail
            all_goals exact ⟨⟨j + 1, _, by simp, by omega, HQ.out⟩, HME.out hlt⟩
          · have hje : j = S.length := by omega
            have hge : ¬ ((j : Int) < (S.length : Int)) := by omega
            have hNs := HJ.out
            rw [hje, List.take_length] at hNs
            have HE : Hid (OrdR rs w (.returned (.tuple #[.slice (some ⟨go, 0, none⟩) hn hn, .int .i64 0])) wr) := by
              refine ⟨HZb.out.trans (hNs.fr.below (fun k hk => ?_) HZb.out.size), .inl ⟨go, hn, hn, V, S, s, rfl, ⟨hNs.o, hNs.r⟩, HSp.out.1.trans HP.out, HSp.out.2, HL.out, fun x hx => HX.out.1 x (HSp.out.1.mem_iff.1 hx), ?_⟩⟩
              · subst hk
                exact HGl.out
              · rcases HX.out.2 with h1 | ⟨x, hx, h1⟩
                · exact .inl h1
                · exact .inr ⟨x, HSp.out.1.mem_iff.2 hx, h1⟩
            clear hNs HJ
            go_wp2_with fail
            exact bodyPost_ret (v := .tuple #[.slice (some ⟨go, 0, none⟩) hn hn, .int .i64 0]) (by simp [results, Try.results8, go_sem]) rfl HE.out
      · intro x v kl yd yp w5 cnt5 hkey hlk hv hat hrg5 hlt hg5 hs5 hen
        have hkl := key_lit hkey
        subst hkl
        have hve := HR.out.val hlk hv (y := (yd, yp)) hat
        have hx2 := HF.out x (HR.out.lh x hlk)
        have HN := hide (HR.out.next hlk hrg5 hg5 hx2.1)
        have HME : Hid (w5.rangeLeft ob r < wr.rangeLeft ob r) := by show _ < _; rw [HN.out.rg.left_eq, HR.out.rg.left_eq]; exact hlt
        rw [hve] at hen ⊢
        obtain ⟨fx, hfx⟩ : ∃ fx, fx = s x := ⟨_, rfl⟩
        rw [← hfx] at hen hx2 HN ⊢
        obtain ⟨hx0, hx1⟩ := hx2
        clear hve hkey hlk hv hat hrg5 hlt hg5 hs5 hfx HR
        go_wp2_with fail
        exact ⟨⟨_, cnt5, max h (fx + 1), rfl, by omega, HN.out⟩, HME.out⟩
  · have HE : Hid (Below w.heap.size w w1 ∧ ∀ t, ¬ NSol rs t) := ⟨hb1, hno⟩
    clear hb1 hno HO
    go_wp2_with fail
    exact bodyPost_ret (v := .tuple #[.slice none 0 0, .int .i64 7]) (by simp [results, Try.results8, go_sem]) rfl ⟨HE.out.1, .inr ⟨rfl, HE.out.2⟩⟩
end Go.Proofs.Ytdmhajeaphnebaa.Gr
namespace Go.Proofs.Ytdmhajeaphnebaa.Gr
open Go.RowKit
open Vl (Fr)
open Sy (isRs isRs_below Rul OkR)
open Tj (memB memB_iff ixN ixN_lt ixN_getE HeadsOf hdN ndOf ndOf_mem ndOf_bnd ndB nd1 nd1_mem ndB_take ng ng_nn Sol Ras NSol NLeast name_least name_none isP)
variable {w0 w w' : World} {hv sv : Value} {Hs : List ByteArray} {st : Nat → Int} {rs : List Rul}
structure Sq (w0 w : World) (hv sv : Value) (Hs : List ByteArray) (st : Nat → Int) (rs : List Rul) : Prop where
  h : w.ownsRow 0 9 1 hv Hs.length (nmRow Hs)
  s : w.ownsRow 0 3 1 sv Hs.length (rowI st Hs.length)
  z : Below w0.heap.size w0 w
  zs : ∀ k, sv.ownBlock = some k → w0.heap.size ≤ k
  ra : Ras (ndOf Hs rs) Hs.length st
theorem Sq.below (k : Sq w0 w hv sv Hs st rs) (hb : Below w.heap.size w w') : Sq w0 w' hv sv Hs st rs := by
  have hf : Fr (fun _ => False) w w' := Fr.of_below hb
  have ho : ∀ {e s c : Nat} {x : Value} {xs : List Value}, w.ownsRow 0 e s x c xs → w'.ownsRow 0 e s x c xs := fun {e s c x xs} k => own_of_cell k hf (fun _ hk => hk.elim)
  exact ⟨ho k.h, ho k.s, k.z.trans (hb.mono k.z.size), k.zs, k.ra⟩
theorem Sq.raise {sg sc v : Nat} {e : Nat × Bool} (k : Sq w0 w hv (.slice (some ⟨sg, 0, none⟩) Hs.length sc) Hs st rs) (hv' : v < Hs.length) (he : e ∈ ndOf Hs rs v) (hlt : st v < st e.1 + ng e.2) : Sq w0 (w.setCell ⟨sg, v, none⟩ (.int .i64 (st e.1 + ng e.2))) hv (.slice (some ⟨sg, 0, none⟩) Hs.length sc) Hs (upd st v (st e.1 + ng e.2)) rs := by
  have hf : Fr (fun b => b = sg) w (w.setCell ⟨sg, v, none⟩ (.int .i64 (st e.1 + ng e.2))) := Vl.Fr.one _ _ _ _
  obtain ⟨cur, hg⟩ := own_blk k.s (k := sg) rfl
  have hs := own_set (j := v) k.s (.int .i64 (st e.1 + ng e.2))
  rw [rowI_set] at hs
  exact ⟨own_of_cell k.h hf (fun b hb hu => by subst hb; exact own_ty k.h hg (by decide) hu), hs, k.z.trans (hf.below (fun b hb => by subst hb; exact k.zs _ rfl) k.z.size), k.zs, k.ra.step (fun v _ => ndOf_bnd Hs rs v) hv' he hlt⟩
/-- The needs of these rules are met. -/
def Met (Hs : List ByteArray) (st : Nat → Int) (rs : List Rul) : Prop := ∀ r ∈ rs, ∀ e ∈ ndB Hs r.2, st e.1 + ng e.2 ≤ st (ixN Hs (hdN r))
def MetL (Hs : List ByteArray) (st : Nat → Int) (v : Nat) (ls : List Sy.Lit) : Prop := ∀ e ∈ ndB Hs ls, st e.1 + ng e.2 ≤ st v
theorem Met.next {i : Nat} (hi : i < rs.length) (h : Met Hs st (rs.take i)) (k : MetL Hs st (ixN Hs (hdN rs[i])) rs[i].2) : Met Hs st (rs.take (i + 1)) := fun r hr e he => by
  rw [List.take_succ_eq_append_getElem hi] at hr
  rcases List.mem_append.1 hr with hr | hr
  · exact h r hr e he
  · have : r = rs[i] := by simpa using hr
    subst this
    exact k e he
theorem MetL.next {v j : Nat} {ls : List Sy.Lit} (hj : j < ls.length) (h : MetL Hs st v (ls.take j)) (k : ∀ e ∈ nd1 Hs ls[j], st e.1 + ng e.2 ≤ st v) : MetL Hs st v (ls.take (j + 1)) := fun e he => by
  rw [ndB_take hj] at he
  rcases List.mem_append.1 he with he | he
  · exact h e he
  · exact k e he
theorem Met.sol (h : Met Hs st rs) : ∀ v, v < Hs.length → ∀ e ∈ ndOf Hs rs v, st e.1 + ng e.2 ≤ st v := fun v _ e he => by
  obtain ⟨r, hr, hv, l, hl, hp, hm, rfl⟩ := ndOf_mem.1 he
  have := h r hr _ (List.mem_flatMap.2 ⟨l, hl, nd1_mem.2 ⟨hp, hm, rfl⟩⟩)
  rw [hv] at this
  exact this
theorem need_mem {r : Rul} (hr : r ∈ rs) {l : Sy.Lit} (hl : l ∈ r.2) {e : Nat × Bool} (he : e ∈ nd1 Hs l) : e ∈ ndOf Hs rs (ixN Hs (hdN r)) := by
  obtain ⟨h1, h2, h3⟩ := nd1_mem.1 he
  exact ndOf_mem.2 ⟨r, hr, rfl, l, hl, h1, h2, h3⟩
def room (st : Nat → Int) (n : Nat) : Nat := sumN n (fun v => ((n : Int) + 10 - st v).toNat)
theorem room_raise {n v : Nat} {x : Int} (hv : v < n) (hlt : st v < x) (hx : st v ≤ (n : Int) + 9) : room (upd st v x) n + 1 ≤ room st n := by
  have := sumN_lt (n := n) (f := fun u => ((n : Int) + 10 - st u).toNat) (g := fun u => ((n : Int) + 10 - upd st v x u).toNat) (fun u _ => by
    by_cases e : u = v
    · subst e; simp only [upd_s]; omega
    · simp only [upd_o _ _ e]; exact Nat.le_refl _) hv (by simp only [upd_s]; omega)
  unfold room
  omega
end Go.Proofs.Ytdmhajeaphnebaa.Gr
namespace Go.Proofs.Ytdmhajeaphnebaa.Gr
open Go.RowKit
open Vl (Fr)
open Sy (isRs isRs_below isLs isLs_cells Rul OkR)
open Rp (isRs_cells isRs_shape)
open Tj (memB memB_iff ixN ixN_lt ixN_getE HeadsOf hdN ndOf ndOf_mem ndOf_bnd ndB nd1 nd1_mem ndB_take ng ng_nn Sol Ras NSol NLeast name_least name_none isP idsOf idsOf_len)
variable {w0 w w' : World} {rs : List Rul}
theorem ngF : ng false = 0 := rfl
theorem ngT : ng true = 1 := rfl
/-- What the reference's Strata tells. -/
def StR (rs : List Rul) (w : World) (x : Ending) (w2 : World) : Prop := Below w.heap.size w w2 ∧ ((∃ v Hs st, x = .returned (.tuple #[v, .bool true]) ∧ w2.ownsRow 0 3 1 v Hs.length (rowI st Hs.length) ∧ Hq Hs rs ∧ NLeast rs (fun x => st (ixN Hs x))) ∨ (x = .returned (.tuple #[.slice none 0 0, .bool false]) ∧ ∀ t, ¬ NSol rs t))
set_option maxHeartbeats 8000000 in
set_option maxRecDepth 4000 in
theorem rstrata_any {y : Value} (hR : isRs w rs y) (hok : OkRs rs) : Calls Try.prog 10 #[y] w fun x w2 => StR rs w x w2 := by
  obtain ⟨ao, cap, hy⟩ := isRs_shape hR
  have HH := hide (heads_any hR hok.1)
  have HR := hide hR
  have HO := hide hok
  have hrI : (rs.length : Int) ≤ 30 := by have := hok.1; omega
  subst hy
  clear hR hok
  go_enter Try.func10, Try.ntmps10
  go_wp2_with fail
  refine Calls.mono HH.out ?_
  rintro x w1 ⟨hv, rfl, Hs, hrow, hq, hb1⟩
  obtain ⟨ha, hc, rfl⟩ := own_sl hrow
  have hn30 : Hs.length ≤ 30 := Nat.le_trans (Tj.nodup_len hq.heads.nd (fun x hx => ((Tj.heads_ids rs).mem x).2 ((hq.mem x).1 hx))) (Nat.le_trans (idsOf_len rs) HO.out.1)
  obtain ⟨n, hn⟩ : ∃ n, n = Hs.length := ⟨_, rfl⟩
  have hmk := make_rowI n (by omega)
  obtain ⟨W2, hW2⟩ : ∃ W2, W2 = w1.alloc (.cells (rowI (fun _ => 0) n).toArray 3) := ⟨_, rfl⟩
  have hA : Below w1.heap.size w1 W2 := by rw [hW2]; exact (Below.refl _ _).alloc (Nat.le_refl _) _
  have hz2 : Below w.heap.size w W2 := hb1.trans (hA.mono hb1.size)
  obtain ⟨sg, hsg⟩ : ∃ sg, sg = w1.heap.size := ⟨_, rfl⟩
  have HS0 : Hid (Sq w W2 (.slice ha Hs.length hc) (.slice (some ⟨sg, 0, none⟩) Hs.length n) Hs (fun _ => 0) rs) := by
    refine ⟨own_of_cell hrow (Fr.of_below (F := fun _ => False) hA) (fun _ hk => hk.elim), ?_, hz2, fun k hk => ?_, Ras.zero _ _⟩
    · have h1 : W2.heap[sg]? = some (.cells (rowI (fun _ => 0) n).toArray 3 (0, 0)) := by rw [hW2, hsg]; exact heap_alloc_new _ _
      have h2 := row_of h1 (by omega)
      rw [hn] at h2 ⊢
      exact h2
    · simp [Value.ownBlock] at hk
      rw [← hk, hsg]
      exact hb1.size
  rw [← hn] at HS0 hn30
  simp only [← hn]
  have HN := hide hn
  have HQ := hide hq
  have EW := hide hW2
  have EG := hide hsg
  have hnI : (n : Int) ≤ 30 := by omega
  have HRW : Hid (∀ W, Below w.heap.size w W → isRs W rs (.slice ao rs.length cap)) := fun W hb => isRs_below HR.out hb
  clear HH hrow hq hb1 hA hz2 hW2 hsg hn
  go_upto_region 3 with fail
  rw [← EW.out, ← EG.out]
  clear EW EG hmk
  go_wp2_with fail
  go_loopg [6] (room (fun _ => 0) n + 1) (fun k av wr => ∃ (b : Bool) (st : Nat → Int), av = .bool b ∧ Hid (Sq w wr (.slice ha n hc) (.slice (some ⟨sg, 0, none⟩) n n) Hs st rs ∧ (∀ v, v < n → st v ≤ (n : Int)) ∧ (b = false → Met Hs st rs) ∧ room st n + (if b = true then 1 else 0) ≤ k))
  case atStart => exact ⟨true, fun _ => 0, rfl, HS0.out, (fun _ _ => by show (0 : Int) ≤ _; omega), (fun e => by cases e), by simp⟩
  case round =>
    obtain ⟨b, st, rfl, HV⟩ := hrel
    clear HS0
    cases b with
    | false =>
      have HE : Hid (StR rs w (.returned (.tuple #[.slice (some ⟨sg, 0, none⟩) n n, .bool true])) wr) := by
        have hd := HV.out.1.ra.done (HV.out.2.2.1 rfl).sol
        refine ⟨HV.out.1.z, .inl ⟨_, Hs, st, rfl, ?_, HQ.out, name_least HQ.out.heads hd.1 hd.2⟩⟩
        have h := HV.out.1.s
        rw [← HN.out] at h ⊢
        exact h
      clear HV
      go_wp2_with fail
      exact bodyPost_ret (v := .tuple #[.slice (some ⟨sg, 0, none⟩) n n, .bool true]) (by simp [results, Try.results10, go_sem]) rfl HE.out
    | true =>
      go_wp2_with fail
      go_loopw [6, 7] (fun av iv wq => ∃ (i : Nat) (b : Bool) (st' : Nat → Int), iv = .int .i64 (i : Int) ∧ av = .bool b ∧ i ≤ rs.length ∧ Hid (Sq w wq (.slice ha n hc) (.slice (some ⟨sg, 0, none⟩) n n) Hs st' rs ∧ (∀ v, v < n → st' v ≤ (n : Int)) ∧ (b = false → st' = st ∧ Met Hs st (rs.take i)) ∧ (b = true → room st' n + 1 ≤ room st n))) (fun _ iv _ => rs.length - (intOf iv).toNat)
      case atStart => exact ⟨0, false, st, rfl, rfl, Nat.zero_le _, HV.out.1, HV.out.2.1, (fun _ => ⟨rfl, fun r hr => by simp at hr⟩), (fun e => by cases e)⟩
      case round =>
        obtain ⟨i, b, st', rfl, rfl, hi, HI⟩ := hrel
        have HME : Hid (i < rs.length → rs.length - (intOf (.int .i64 ((i : Int) + 1))).toNat < rs.length - (intOf (.int .i64 (i : Int))).toNat) := fun h => by
          simp [intOf]; omega
        by_cases hlt : i < rs.length
        · have hltI : (i : Int) < (rs.length : Int) := by omega
          obtain ⟨g, hao, hcc⟩ := (isRs_cells (HRW.out wr HI.out.1.z)).2 (by omega)
          subst hao
          have hmem : rs[i].1.2.1 ∈ Hs := (HQ.out.mem _).2 ⟨rs[i], List.getElem_mem hlt, rfl⟩
          have hpl : plc Hs rs[i].1.2.1 = (ixN Hs rs[i].1.2.1 : Int) := if_pos (memB_iff.2 hmem)
          have hix := ixN_lt hmem
          rw [← HN.out] at hix
          obtain ⟨kk, hkk⟩ : ∃ kk, kk = ixN Hs rs[i].1.2.1 := ⟨_, rfl⟩
          rw [← hkk] at hpl hix
          have HP : Hid (∀ (W : World) (s : ByteArray), W.ownsRow 0 9 1 (.slice ha n hc) Hs.length (nmRow Hs) → Calls Try.prog 21 #[.slice ha n hc, .string s] W fun e w' => e = .returned (.int .i64 (plc Hs s)) ∧ w' = W) := fun W s hr => place_any hr (by rw [← HN.out]; omega) s
          have HP1 := hide (HP.out wr rs[i].1.2.1 HI.out.1.h)
          rw [hpl] at HP1
          have HRC : Hid (∀ W, Below w.heap.size w W → ∃ va vb, isLs W rs[i].2 vb ∧ W.cell? ⟨g, i * 4 + 1, none⟩ = some (.string rs[i].1.2.1) ∧ W.cell? ⟨g, i * 4 + 2, none⟩ = some va ∧ W.cell? ⟨g, i * 4 + 3, none⟩ = some vb) := fun W hb => by
            obtain ⟨g', e', hc'⟩ := (isRs_cells (HRW.out W hb)).2 (by omega)
            simp only [Option.some.injEq, Addr.mk.injEq, and_true] at e'
            subst e'
            obtain ⟨va, vb, _, h1, _, h2, h3, h4⟩ := hc' i hlt
            exact ⟨va, vb, h1, h2, h3, h4⟩
          obtain ⟨_, _, _, x1, _, _⟩ := HRC.out wr HI.out.1.z
          have hoi := HO.out.2 rs[i] (List.getElem_mem hlt)
          have hb6 := hoi.few
          have HNM : Hid (∀ l ∈ rs[i].2, ∀ e ∈ nd1 Hs l, e ∈ ndOf Hs rs kk) := fun l hl e he => by rw [hkk]; exact need_mem (List.getElem_mem hlt) hl he
          have HNX : Hid (∀ t, Met Hs t (rs.take i) → MetL Hs t kk rs[i].2 → Met Hs t (rs.take (i + 1))) := fun t h1 h2 => h1.next hlt (by unfold hdN; rw [← hkk]; exact h2)
          have hixI : (kk : Int) < (n : Int) := by omega
          clear hcc hpl hmem hkk hoi
          generalize rs[i].1.2.1 = nm at *
          generalize rs[i].2 = ls at *
          have hlsI : (ls.length : Int) ≤ 6 := by omega
          go_wp2_with fail
          refine Calls.mono HP1.out ?_
          rintro e w5 ⟨rfl, hw5⟩
          have hw5' := hw5.symm
          subst hw5'
          clear hw5 HP1 x1
          go_wp2_with fail
          go_loopw [6, 9] (fun av jv wz => ∃ (j : Nat) (b : Bool) (s2 : Nat → Int), jv = .int .i64 (j : Int) ∧ av = .bool b ∧ j ≤ ls.length ∧ Hid (Sq w wz (.slice ha n hc) (.slice (some ⟨sg, 0, none⟩) n n) Hs s2 rs ∧ (∀ v, v < n → v ≠ kk → s2 v ≤ (n : Int)) ∧ s2 kk ≤ (n : Int) + (j : Int) ∧ (b = false → s2 = st ∧ Met Hs st (rs.take i) ∧ MetL Hs st kk (ls.take j)) ∧ (b = true → room s2 n + 1 ≤ room st n))) (fun _ jv _ => ls.length - (intOf jv).toNat)
          case atStart => exact ⟨0, b, st', rfl, rfl, Nat.zero_le _, HI.out.1, (fun v hv _ => HI.out.2.1 v hv), (by have := HI.out.2.1 kk hix; omega), (fun e => ⟨(HI.out.2.2.1 e).1, (HI.out.2.2.1 e).2, fun e he => by simp [ndB] at he⟩), HI.out.2.2.2⟩
          case round =>
            obtain ⟨j, b, s2, rfl, rfl, hj, HJ⟩ := hrel
            clear HI
            have HMJ : Hid (j < ls.length → ls.length - (intOf (.int .i64 ((j : Int) + 1))).toNat < ls.length - (intOf (.int .i64 (j : Int))).toNat) := fun h => by
              simp [intOf]; omega
            obtain ⟨va, vb, hls, y1, y2, y3⟩ := HRC.out wr HJ.out.1.z
            have hbl : ∃ ba bc, vb = .slice ba ls.length bc := by
              obtain ⟨zs, h1, h2, _⟩ := hls
              obtain ⟨ao', cap', rfl⟩ := own_sl h2
              exact ⟨ao', cap', by rw [← h1, List.length_map]⟩
            obtain ⟨ba, bc, rfl⟩ := hbl
            have hs0 : ∀ v, v < n → 0 ≤ s2 v := fun v hv => HJ.out.1.ra.nn v (by rw [← HN.out]; exact hv)
            by_cases hjl : j < ls.length
            · have hjI : (j : Int) < (ls.length : Int) := by omega
              obtain ⟨lg, rfl, hlc⟩ := (isLs_cells hls).2 (by omega)
              obtain ⟨ta, hta, z0, z1, z2⟩ := hlc j hjl
              obtain ⟨tg, tc, rfl⟩ := own_sl hta
              have hndj : ∀ e ∈ nd1 Hs ls[j], e ∈ ndOf Hs rs kk := HNM.out ls[j] (List.getElem_mem hjl)
              have HML : Hid (∀ t, MetL Hs t kk (ls.take j) → (∀ e ∈ nd1 Hs ls[j], t e.1 + ng e.2 ≤ t kk) → MetL Hs t kk (ls.take (j + 1))) := fun t h1 h2 => h1.next hjl h2
              clear hta hlc hls
              generalize ls[j].2.2.length = tn at z2
              generalize ls[j] = l at *
              obtain ⟨lk, ln, lt⟩ := l
              simp only at z0 z1
              obtain ⟨U, hU⟩ : ∃ U, U = wr.alloc (.cells #[.int .i64 lk, .string ln, .slice tg tn tc] 57) := ⟨_, rfl⟩
              have hUB : Below wr.heap.size wr U := by rw [hU]; exact (Below.refl _ _).alloc (Nat.le_refl _) _
              have hUL : U.heap[wr.heap.size]? = some (.cells #[.int .i64 lk, .string ln, .slice tg tn tc] 57 (0, 0)) := by rw [hU]; exact heap_alloc_new _ _
              have HU := hide (HJ.out.1.below hUB)
              have HPU := hide (HP.out U ln HU.out.h)
              have u0 : U.cell? ⟨wr.heap.size, 0, none⟩ = some (.int .i64 lk) := by rw [cell_of_row _ _ 0 _ _ _ hUL]; rfl
              have u1 : U.cell? ⟨wr.heap.size, 1, none⟩ = some (.string ln) := by rw [cell_of_row _ _ 1 _ _ _ hUL]; rfl
              have EU := hide hU
              have HSK : Hid (nd1 Hs ((lk, ln, lt) : Sy.Lit) = [] → Sq w U (.slice ha n hc) (.slice (some ⟨sg, 0, none⟩) n n) Hs s2 rs ∧ (∀ v, v < n → v ≠ kk → s2 v ≤ (n : Int)) ∧ s2 kk ≤ (n : Int) + ((j + 1 : Nat) : Int) ∧ (b = false → s2 = st ∧ Met Hs st (rs.take i) ∧ MetL Hs st kk (ls.take (j + 1))) ∧ (b = true → room s2 n + 1 ≤ room st n)) := fun e0 => ⟨HU.out, HJ.out.2.1, by have := HJ.out.2.2.1; omega, fun e => by
                obtain ⟨h1, h2, h3⟩ := HJ.out.2.2.2.1 e
                exact ⟨h1, h2, HML.out st h3 (fun e' he' => by rw [e0] at he'; cases he')⟩, HJ.out.2.2.2.2⟩
              clear hU hUB hUL
              go_upto_region 14 with fail
              rw [← EU.out]
              clear y1 y2 y3 z0 z1 z2
              go_wp2_with fail
              refine Calls.mono HPU.out ?_
              rintro e w6 ⟨rfl, hw6⟩
              have hw6' := hw6.symm
              subst hw6'
              clear hw6 HPU u1
              by_cases hm : memB Hs ln = true
              · have hq : plc Hs ln = (ixN Hs ln : Int) := if_pos hm
                have hqx := ixN_lt (memB_iff.1 hm)
                rw [← HN.out] at hqx
                rw [hq]
                by_cases hp : lk = 1 ∨ lk = 2
                · have hsr := HU.out.s
                  rw [← HN.out] at hsr
                  obtain ⟨_, _, ee, -, -, hsc, hsf⟩ := own_open hsr (by omega)
                  simp only [Value.slice.injEq, Option.some.injEq, Addr.mk.injEq, and_true, true_and] at ee
                  obtain ⟨rfl, rfl⟩ := ee
                  have xq := (hsc (ixN Hs ln) (by omega)).trans (rowI_get s2 hqx)
                  have xk := (hsc kk (by omega)).trans (rowI_get s2 hix)
                  have fk := hsf kk
                  have hq0 : ¬ ((ixN Hs ln : Int) < 0) := by omega
                  have hqI : (ixN Hs ln : Int) < (n : Int) := by omega
                  have bq : 0 ≤ s2 (ixN Hs ln) ∧ s2 (ixN Hs ln) ≤ 100 := ⟨hs0 _ hqx, by
                    by_cases e : ixN Hs ln = kk
                    · rw [e]; have := HJ.out.2.2.1; omega
                    · have := HJ.out.2.1 _ hqx e; omega⟩
                  obtain ⟨bq0, bq1⟩ := bq
                  clear hsr hsc hsf hs0
                  rcases hp with rfl | rfl
                  · have hem : ((ixN Hs ln, false) : Nat × Bool) ∈ nd1 Hs ((1, ln, lt) : Sy.Lit) := nd1_mem.2 ⟨.inl rfl, memB_iff.1 hm, rfl⟩
                    have HE1 : Hid (∀ e ∈ nd1 Hs ((1, ln, lt) : Sy.Lit), e = (ixN Hs ln, false)) := fun e he => (nd1_mem.1 he).2.2
                    have hen := hndj _ hem
                    by_cases hcmp : s2 kk < s2 (ixN Hs ln)
                    · have hUr := HU.out
                      rw [HN.out] at hUr
                      have HR2 := hide (hUr.raise (e := (ixN Hs ln, false)) (by rw [← HN.out]; exact hix) hen (by show s2 kk < s2 (ixN Hs ln) + ng false; rw [ngF]; omega))
                      simp only [ngF, Int.add_zero] at HR2
                      rw [← HN.out] at HR2
                      have HN2 : Hid (Sq w (U.setCell ⟨sg, kk, none⟩ (.int .i64 (s2 (ixN Hs ln)))) (.slice ha n hc) (.slice (some ⟨sg, 0, none⟩) n n) Hs (upd s2 kk (s2 (ixN Hs ln))) rs ∧ (∀ v, v < n → v ≠ kk → upd s2 kk (s2 (ixN Hs ln)) v ≤ (n : Int)) ∧ upd s2 kk (s2 (ixN Hs ln)) kk ≤ (n : Int) + ((j + 1 : Nat) : Int) ∧ (true = false → upd s2 kk (s2 (ixN Hs ln)) = st ∧ Met Hs st (rs.take i) ∧ MetL Hs st kk (ls.take (j + 1))) ∧ (true = true → room (upd s2 kk (s2 (ixN Hs ln))) n + 1 ≤ room st n)) := by
                        refine ⟨HR2.out, fun v hv hne => by rw [upd_o _ _ hne]; exact HJ.out.2.1 v hv hne, ?_, (fun e => by cases e), fun _ => ?_⟩
                        · rw [upd_s]
                          have h1 := HJ.out.2.2.1
                          by_cases e : ixN Hs ln = kk
                          · rw [e] at hcmp ⊢; omega
                          · have := HJ.out.2.1 (ixN Hs ln) hqx e; omega
                        · have h1 := room_raise (st := s2) (n := n) (v := kk) hix hcmp (by have := HJ.out.2.2.1; omega)
                          cases b with
                          | false => rw [(HJ.out.2.2.2.1 rfl).1] at h1 ⊢; exact h1
                          | true => have := HJ.out.2.2.2.2 rfl; omega
                      clear HSK HJ HU hndj hem HE1 hen HR2 hUr hm hq
                      generalize s2 kk = sk at xk hcmp
                      generalize s2 (ixN Hs ln) = sq at *
                      generalize ixN Hs ln = qx at *
                      have hcmpI : sk < sq := hcmp
                      go_wp2_with fail
                      exact ⟨⟨j + 1, true, _, by simp, rfl, by omega, HN2.out.1, HN2.out.2.1, HN2.out.2.2.1, HN2.out.2.2.2.1, fun _ => HN2.out.2.2.2.2 (by first | rfl | trivial)⟩, HMJ.out hjl⟩
                    · have HN2 : Hid (Sq w U (.slice ha n hc) (.slice (some ⟨sg, 0, none⟩) n n) Hs s2 rs ∧ (∀ v, v < n → v ≠ kk → s2 v ≤ (n : Int)) ∧ s2 kk ≤ (n : Int) + ((j + 1 : Nat) : Int) ∧ (b = false → s2 = st ∧ Met Hs st (rs.take i) ∧ MetL Hs st kk (ls.take (j + 1))) ∧ (b = true → room s2 n + 1 ≤ room st n)) := ⟨HU.out, HJ.out.2.1, by have := HJ.out.2.2.1; omega, fun e => by
                        obtain ⟨h1, h2, h3⟩ := HJ.out.2.2.2.1 e
                        refine ⟨h1, h2, HML.out st h3 (fun e' he' => ?_)⟩
                        rw [HE1.out e' he', ← h1]
                        show s2 (ixN Hs ln) + ng false ≤ s2 kk
                        rw [ngF]
                        omega, HJ.out.2.2.2.2⟩
                      clear HSK HJ HU hndj hem HE1 hen hm hq
                      generalize s2 kk = sk at xk hcmp
                      generalize s2 (ixN Hs ln) = sq at *
                      generalize ixN Hs ln = qx at *
                      have hcmpI : ¬ (sk < sq) := hcmp
                      go_wp2_with fail
                      exact ⟨⟨j + 1, b, s2, by simp, rfl, by omega, HN2.out⟩, HMJ.out hjl⟩
                  · have hem : ((ixN Hs ln, true) : Nat × Bool) ∈ nd1 Hs ((2, ln, lt) : Sy.Lit) := nd1_mem.2 ⟨.inr rfl, memB_iff.1 hm, rfl⟩
                    have HE1 : Hid (∀ e ∈ nd1 Hs ((2, ln, lt) : Sy.Lit), e = (ixN Hs ln, true)) := fun e he => (nd1_mem.1 he).2.2
                    have hen := hndj _ hem
                    by_cases hcmp : s2 kk < s2 (ixN Hs ln) + 1
                    · have hUr := HU.out
                      rw [HN.out] at hUr
                      have HR2 := hide (hUr.raise (e := (ixN Hs ln, true)) (by rw [← HN.out]; exact hix) hen (by show s2 kk < s2 (ixN Hs ln) + ng true; rw [ngT]; omega))
                      simp only [ngT] at HR2
                      rw [← HN.out] at HR2
                      have HN2 : Hid (Sq w (U.setCell ⟨sg, kk, none⟩ (.int .i64 (s2 (ixN Hs ln) + 1))) (.slice ha n hc) (.slice (some ⟨sg, 0, none⟩) n n) Hs (upd s2 kk (s2 (ixN Hs ln) + 1)) rs ∧ (∀ v, v < n → v ≠ kk → upd s2 kk (s2 (ixN Hs ln) + 1) v ≤ (n : Int)) ∧ upd s2 kk (s2 (ixN Hs ln) + 1) kk ≤ (n : Int) + ((j + 1 : Nat) : Int) ∧ (true = false → upd s2 kk (s2 (ixN Hs ln) + 1) = st ∧ Met Hs st (rs.take i) ∧ MetL Hs st kk (ls.take (j + 1))) ∧ (true = true → room (upd s2 kk (s2 (ixN Hs ln) + 1)) n + 1 ≤ room st n)) := by
                        refine ⟨HR2.out, fun v hv hne => by rw [upd_o _ _ hne]; exact HJ.out.2.1 v hv hne, ?_, (fun e => by cases e), fun _ => ?_⟩
                        · rw [upd_s]
                          have h1 := HJ.out.2.2.1
                          by_cases e : ixN Hs ln = kk
                          · rw [e] at hcmp ⊢; omega
                          · have := HJ.out.2.1 (ixN Hs ln) hqx e; omega
                        · have h1 := room_raise (st := s2) (n := n) (v := kk) hix hcmp (by have := HJ.out.2.2.1; omega)
                          cases b with
                          | false => rw [(HJ.out.2.2.2.1 rfl).1] at h1 ⊢; exact h1
                          | true => have := HJ.out.2.2.2.2 rfl; omega
                      clear HSK HJ HU hndj hem HE1 hen HR2 hUr hm hq
                      generalize s2 kk = sk at xk hcmp
                      generalize s2 (ixN Hs ln) = sq at *
                      generalize ixN Hs ln = qx at *
                      have hcmpI : sk < sq + 1 := hcmp
                      go_wp2_with fail
                      exact ⟨⟨j + 1, true, _, by simp, rfl, by omega, HN2.out.1, HN2.out.2.1, HN2.out.2.2.1, HN2.out.2.2.2.1, fun _ => HN2.out.2.2.2.2 (by first | rfl | trivial)⟩, HMJ.out hjl⟩
                    · have HN2 : Hid (Sq w U (.slice ha n hc) (.slice (some ⟨sg, 0, none⟩) n n) Hs s2 rs ∧ (∀ v, v < n → v ≠ kk → s2 v ≤ (n : Int)) ∧ s2 kk ≤ (n : Int) + ((j + 1 : Nat) : Int) ∧ (b = false → s2 = st ∧ Met Hs st (rs.take i) ∧ MetL Hs st kk (ls.take (j + 1))) ∧ (b = true → room s2 n + 1 ≤ room st n)) := ⟨HU.out, HJ.out.2.1, by have := HJ.out.2.2.1; omega, fun e => by
                        obtain ⟨h1, h2, h3⟩ := HJ.out.2.2.2.1 e
                        refine ⟨h1, h2, HML.out st h3 (fun e' he' => ?_)⟩
                        rw [HE1.out e' he', ← h1]
                        show s2 (ixN Hs ln) + ng true ≤ s2 kk
                        rw [ngT]
                        omega, HJ.out.2.2.2.2⟩
                      clear HSK HJ HU hndj hem HE1 hen hm hq
                      generalize s2 kk = sk at xk hcmp
                      generalize s2 (ixN Hs ln) = sq at *
                      generalize ixN Hs ln = qx at *
                      have hcmpI : ¬ (sk < sq + 1) := hcmp
                      go_wp2_with fail
                      exact ⟨⟨j + 1, b, s2, by simp, rfl, by omega, HN2.out⟩, HMJ.out hjl⟩
                · have g1 : (lk != 1) = true := by simp; exact fun e => hp (.inl e)
                  have g2 : (lk != 2) = true := by simp; exact fun e => hp (.inr e)
                  have hq0 : ¬ ((ixN Hs ln : Int) < 0) := by omega
                  have HN2 := hide (HSK.out (if_neg (fun h => hp h.1)))
                  clear HSK hp HJ HU hndj
                  generalize ixN Hs ln = qx at *
                  go_wp2_with fail
                  exact ⟨⟨j + 1, b, s2, by simp, rfl, by omega, HN2.out⟩, HMJ.out hjl⟩
              · have hq : plc Hs ln = -1 := if_neg hm
                rw [hq]
                have HN2 := hide (HSK.out (if_neg (fun h => hm h.2)))
                clear HSK HJ HU hndj hm hq
                go_wp2_with fail
                exact ⟨⟨j + 1, b, s2, by simp, rfl, by omega, HN2.out⟩, HMJ.out hjl⟩
            · have hje : j = ls.length := by omega
              have hge : ¬ ((j : Int) < (ls.length : Int)) := by omega
              have hsr := HJ.out.1.s
              rw [← HN.out] at hsr
              obtain ⟨_, _, ee, -, -, hsc, -⟩ := own_open hsr (by omega)
              simp only [Value.slice.injEq, Option.some.injEq, Addr.mk.injEq, and_true, true_and] at ee
              obtain ⟨rfl, rfl⟩ := ee
              have xk := (hsc kk (by omega)).trans (rowI_get s2 hix)
              by_cases hhigh : (n : Int) < s2 kk
              · have HE : Hid (StR rs w (.returned (.tuple #[.slice none 0 0, .bool false])) wr) := ⟨HJ.out.1.z, .inr ⟨rfl, name_none HQ.out.heads (HJ.out.1.ra.high (fun v _ => ndOf_bnd Hs rs v) (by rw [← HN.out]; exact hix) (by rw [← HN.out]; exact hhigh))⟩⟩
                clear hsr hsc hs0 HJ hls
                generalize s2 kk = sk at xk hhigh
                go_wp2_with fail
                exact bodyPost_ret (v := .tuple #[.slice none 0 0, .bool false]) (by simp [results, Try.results10, go_sem]) rfl HE.out
              · have HN2 : Hid (Sq w wr (.slice ha n hc) (.slice (some ⟨sg, 0, none⟩) n n) Hs s2 rs ∧ (∀ v, v < n → s2 v ≤ (n : Int)) ∧ (b = false → s2 = st ∧ Met Hs st (rs.take (i + 1))) ∧ (b = true → room s2 n + 1 ≤ room st n)) := ⟨HJ.out.1, fun v hv => by
                  by_cases e : v = kk
                  · rw [e]; omega
                  · exact HJ.out.2.1 v hv e, fun e => by
                  obtain ⟨h1, h2, h3⟩ := HJ.out.2.2.2.1 e
                  rw [hje, List.take_length] at h3
                  exact ⟨h1, HNX.out st h2 h3⟩, HJ.out.2.2.2.2⟩
                clear hsr hsc hs0 HJ hls
                generalize s2 kk = sk at xk hhigh
                go_wp2_with fail
                exact ⟨⟨i + 1, b, s2, by simp, rfl, by omega, HN2.out⟩, HME.out hlt⟩
        · have hie : i = rs.length := by omega
          have hge : ¬ ((i : Int) < (rs.length : Int)) := by omega
          have HE : Hid (b = false → Met Hs st' rs) := fun e => by
            obtain ⟨h1, h2⟩ := HI.out.2.2.1 e
            rw [hie, List.take_length] at h2
            rw [h1]
            exact h2
          have hms : room st' n + (if b = true then 1 else 0) < gk := by
            have h1 := HV.out.2.2.2
            simp only [if_true] at h1
            cases b with
            | false => rw [(HI.out.2.2.1 rfl).1]; simp; omega
            | true => have := HI.out.2.2.2 rfl; simp; omega
          have HX : Hid (Sq w wr (.slice ha n hc) (.slice (some ⟨sg, 0, none⟩) n n) Hs st' rs ∧ (∀ v, v < n → st' v ≤ (n : Int)) ∧ (b = false → Met Hs st' rs)) := ⟨HI.out.1, HI.out.2.1, HE.out⟩
          clear HI HE HV
          go_wp2_with fail
          go_roundg (room st' n + (if b = true then 1 else 0))
          case measure => exact hms
          case rel => exact ⟨b, st', rfl, HX.out.1, HX.out.2.1, HX.out.2.2, Nat.le_refl _⟩
end Go.Proofs.Ytdmhajeaphnebaa.Gr

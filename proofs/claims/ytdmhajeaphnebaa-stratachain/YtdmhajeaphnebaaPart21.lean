/- The chain's text is short enough to be read whole. The walk of a name. StrataAll: mathematics of levels. No walk. StrataAll: the law's walk. The chain's text, step by step; its levels; what the order's height is: in plain mathematics. -/
import Derived.Test.YtdmhajeaphnebaaPart20
import Derived.Laws.IdiomStrings
import Derived.BigQuiet
namespace Go.Proofs.Ytdmhajeaphnebaa.Ps
open Go.RowKit
open Lx (Wd tx bs)
open Sy
theorem body_len : ∀ (sg : List Bool) (i : Nat), (bodyT i sg).length ≤ 13 * sg.length
  | [], _ => by simp [bodyT]
  | b :: r, i => by
    have := body_len r (i + 1)
    simp only [bodyT, List.length_append, List.length_cons, clT, nmL, List.length_nil]
    cases b <;> simp <;> omega
theorem chain_len {sg : List Bool} (k : Bool) (hl : sg.length ≤ 20) : (chainT sg k).length ≤ 1200 := by
  have := body_len sg 0
  unfold chainT
  cases k <;> simp [clT, nmL] <;> omega
theorem chain_rules {sg : List Bool} (k : Bool) (hl : sg.length ≤ 20) : Ck.rulesS (tx (chainT sg k)) = chainR sg k := by
  have h1 : Lx.cutS (tx (chainT sg k)) 1200 = tx (chainT sg k) := by
    unfold Lx.cutS
    have := chain_len k hl
    have h2 : (tx (chainT sg k)).size = (chainT sg k).length := by simp [tx, ByteArray.size]
    rw [if_neg (by omega)]
  unfold Ck.rulesS
  rw [h1, Lx.bs_tx, chain_read sg k hl]
  rfl
end Go.Proofs.Ytdmhajeaphnebaa.Ps
namespace Go.Proofs.Ytdmhajeaphnebaa.Ps
open Go.RowKit
open Lx (Wd tx bs)
open Sy
variable {w : World}
theorem u8_small {n : Nat} (h : n < 256) : ((UInt8.ofNat n).toNat : Int) = (n : Int) := by
  rw [UInt8.toNat_ofNat_of_lt' (by simpa [UInt8.size] using h)]
theorem conv_nm {i : Nat} (hi : i ≤ 20) : (convert 63 9 (.slice (some ⟨w.heap.size, 0, none⟩) 2 2)).run Try.prog (w.alloc (Obj.cells #[.int .u8 (97 + (i : Int) / 10), .int .u8 (97 + (i : Int) % 10)] 5)) = .ok (.string (tx [UInt8.ofNat (97 + i / 10), UInt8.ofNat (97 + i % 10)])) (w.alloc (Obj.cells #[.int .u8 (97 + (i : Int) / 10), .int .u8 (97 + (i : Int) % 10)] 5)) := by
  refine run_convert_bytes_back _ 63 9 5 ⟨w.heap.size, 0, none⟩ 2 [UInt8.ofNat (97 + i / 10), UInt8.ofNat (97 + i % 10)] Try.underlying63 Try.underlying5 Try.underlying9 fun j hj => ?_
  have h1 : ((UInt8.ofNat (97 + i / 10)).toNat : Int) = 97 + (i : Int) / 10 := by rw [u8_small (by omega)]; omega
  have h2 : ((UInt8.ofNat (97 + i % 10)).toNat : Int) = 97 + (i : Int) % 10 := by rw [u8_small (by omega)]; omega
  match j, hj with
  | 0, _ =>
    show _ = some (Value.int .u8 ((UInt8.ofNat (97 + i / 10)).toNat : Int))
    rw [h1]
    exact World.cell?_alloc_at _ _ _ _ rfl
  | 1, _ =>
    show _ = some (Value.int .u8 ((UInt8.ofNat (97 + i % 10)).toNat : Int))
    rw [h2]
    exact World.cell?_alloc_at _ _ _ _ rfl
  | j + 2, hj => simp at hj; omega
set_option maxHeartbeats 4000000 in
set_option maxRecDepth 4000 in
theorem name_any {i : Nat} (hi : i ≤ 20) : Calls Try.prog 13 #[.int .i64 (i : Int)] w fun x w2 => x = .returned (.string (nmS i)) ∧ Below w.heap.size w w2 := by
  have HN : Hid ((⟨#[112]⟩ : ByteArray) ++ tx [UInt8.ofNat (97 + i / 10), UInt8.ofNat (97 + i % 10)] = nmS i) := by
    show _ = _
    refine ByteArray.ext ?_
    simp [tx, nmS, nmL, ByteArray.data_append]
  have hcv := conv_nm (w := w) hi
  have HB : Hid (Below w.heap.size w (w.alloc (Obj.cells #[.int .u8 (97 + (i : Int) / 10), .int .u8 (97 + (i : Int) % 10)] 5))) := (Below.refl _ _).alloc (Nat.le_refl _) _
  obtain ⟨q, hq⟩ : ∃ q, q = tx [UInt8.ofNat (97 + i / 10), UInt8.ofNat (97 + i % 10)] := ⟨_, rfl⟩
  rw [← hq] at HN hcv
  have hqs : q.size = 2 := by rw [hq]; rfl
  clear hq
  go_enter Try.func13, Try.ntmps13
  have h1 : (0 : Int) ≤ (i : Int) := by omega
  have h2 : (i : Int) ≤ 20 := by omega
  go_wp2_with fail
  go_ret
  exact ⟨by rw [← HN.out]; rfl, HB.out⟩
end Go.Proofs.Ytdmhajeaphnebaa.Ps
namespace Go.Proofs.Ytdmhajeaphnebaa.Gr
open Go.RowKit
open Vl (Fr)
open Sy (isRs isRs_below Rul OkR)
open Tj (NSol NLeast hdN idsOf heads_ids BackN ixN ixN_at memB memB_iff)
variable {f : ByteArray → Int} {Hs : List ByteArray} {rs : List Rul}
theorem Hq.perm (h : Hq Hs rs) : Hs.Perm (idsOf rs) := (List.perm_ext_iff_of_nodup h.asc.nodup (heads_ids rs).nd).2 fun x => by rw [h.mem, (heads_ids rs).mem]
theorem Asc.le (h : Asc Hs) : Hs.Pairwise (fun a b => bsL a ≤ bsL b) := h.imp fun {a b} hab => show ¬ bsL b < bsL a from fun k => List.lt_irrefl _ (List.lt_trans hab k)
theorem Hq.one {T : List ByteArray} (h : Hq Hs rs) (k : Hq T rs) : Hs = T := sorted_one h.asc.le k.asc.le (h.perm.trans k.perm.symm)
theorem Hq.sorted {S : List ByteArray} (h : Hq Hs rs) (hp : S.Perm (idsOf rs)) (hs : S.Pairwise (fun a b => bsL a ≤ bsL b)) : S = Hs := sorted_one hs h.asc.le (hp.trans h.perm.symm)
/-- How many stand below a level. -/
def cnt (f : ByteArray → Int) (Hs : List ByteArray) (k : Int) : Nat := Hs.countP fun x => decide (f x < k)
theorem cnt_zero (h : ∀ x ∈ Hs, 0 ≤ f x) : cnt f Hs 0 = 0 := by
  unfold cnt
  rw [List.countP_eq_zero]
  intro x hx
  have := h x hx
  simp; omega
theorem cnt_all {k : Int} (h : ∀ x ∈ Hs, f x < k) : cnt f Hs k = Hs.length := by
  unfold cnt
  rw [List.countP_eq_length]
  intro x hx
  simpa using h x hx
theorem cnt_next (k : Nat) : cnt f Hs ((k : Int) + 1) = cnt f Hs (k : Int) + (lev f Hs k).length := by
  unfold cnt lev
  induction Hs with
  | nil => rfl
  | cons x r ih =>
    rw [List.countP_cons, List.countP_cons, List.filter_cons, ih]
    by_cases e : f x = (k : Int)
    · have h1 : decide (f x < (k : Int) + 1) = true := by simp; omega
      have h2 : decide (f x < (k : Int)) = false := by simp; omega
      have h3 : decide (f x = (k : Int)) = true := by simp [e]
      rw [h1, h2, h3]
      simp
      omega
    · have h3 : decide (f x = (k : Int)) = false := by simp [e]
      have h4 : decide (f x < (k : Int) + 1) = decide (f x < (k : Int)) := by
        apply Bool.eq_iff_iff.2
        simp
        omega
      rw [h3, h4]
      simp
      omega
theorem lev_take {i k : Nat} (hi : i < Hs.length) (he : f Hs[i] = (k : Int)) : (lev f Hs k)[(lev f (Hs.take i) k).length]? = some Hs[i] ∧ (lev f (Hs.take (i + 1)) k).length = (lev f (Hs.take i) k).length + 1 ∧ (lev f (Hs.take i) k).length < (lev f Hs k).length := by
  have h1 : Hs = Hs.take i ++ Hs[i] :: Hs.drop (i + 1) := by rw [List.getElem_cons_drop, List.take_append_drop]
  have h2 : lev f Hs k = lev f (Hs.take i) k ++ Hs[i] :: lev f (Hs.drop (i + 1)) k := by
    conv => lhs; rw [h1]
    simp only [lev, List.filter_append, List.filter_cons, he, decide_true, if_true]
  refine ⟨by rw [h2]; simp, ?_, by rw [h2]; simp⟩
  rw [List.take_succ_eq_append_getElem hi]
  simp only [lev, List.filter_append, List.filter_cons, List.filter_nil, he, decide_true, if_true, List.length_append, List.length_singleton]
theorem lev_skip {i k : Nat} (hi : i < Hs.length) (he : f Hs[i] ≠ (k : Int)) : lev f (Hs.take (i + 1)) k = lev f (Hs.take i) k := by
  rw [List.take_succ_eq_append_getElem hi]
  have e : decide (f Hs[i] = (k : Int)) = false := by simp [he]
  simp only [lev, List.filter_append, List.filter_cons, List.filter_nil, e, Bool.false_eq_true, if_false, List.append_nil]
theorem lev_congr {g : ByteArray → Int} (h : ∀ x ∈ Hs, f x = g x) (k : Nat) : lev f Hs k = lev g Hs k := List.filter_congr fun x hx => by rw [h x hx]
theorem lev_pos (hq : Hq Hs rs) (hl : NLeast rs f) {h k : Nat} (hk : k < h) (hx : h = 0 ∨ ∃ x ∈ Hs, f x + 1 = (h : Int)) : 0 < (lev f Hs k).length := by
  rcases hx with h0 | ⟨x, hx, e⟩
  · omega
  · obtain ⟨q, hqm, eq⟩ := (hq.mem x).1 hx
    have hex : ∃ r ∈ rs, f (hdN r) = (k : Int) := by
      by_cases e2 : f x = (k : Int)
      · exact ⟨q, hqm, by rw [eq]; exact e2⟩
      · exact level_some hl (by omega) hqm (by rw [eq]; omega)
    obtain ⟨r, hr, e3⟩ := hex
    have : hdN r ∈ lev f Hs k := by
      unfold lev
      rw [List.mem_filter]
      exact ⟨(hq.mem _).2 ⟨r, hr, rfl⟩, by simpa using e3⟩
    exact List.length_pos_of_mem this
end Go.Proofs.Ytdmhajeaphnebaa.Gr
namespace Go.Proofs.Ytdmhajeaphnebaa.Gr
open Go.RowKit
open Vl (Fr)
open Sy (isRs isRs_below Rul OkR)
open Ck (rules_any rulesS)
open Tj (NSol NLeast hdN idsOf heads_ids BackN ixN ixN_at memB memB_iff)
variable {w : World}
theorem bel_drewN {B : Nat} {a w : World} (h : Below B a w) (n : Nat) : Below B a (w.drewN n) := h.trans ⟨rfl, rfl, rfl, Nat.le_refl _, fun _ _ => rfl⟩
theorem both {P : Prop} {a b : Bool} (h : a = true ↔ P) (k : b = true ↔ P) : a = b := Bool.eq_iff_iff.2 (h.trans k.symm)
set_option maxHeartbeats 16000000 in
set_option maxRecDepth 4000 in
theorem all_any (s nm : ByteArray) : Calls Try.prog 3 #[.string s, .string nm] w fun x w2 => x = .returned (.bool true) ∧ Below w.heap.size w w2 := by
  have HB := hide (begun_any (w := w))
  have HRu : Hid (∀ W, Calls Try.prog 6 #[.string s] W fun e w' => (∃ y, e = .returned y ∧ isRs w' (rulesS s) y) ∧ Below W.heap.size W w') := fun W => rules_any s W
  have HO : Hid (OkRs (rulesS s)) := ok_read s
  generalize rulesS s = rs at *
  go_enter Try.func3, Try.ntmps3
  go_wp2_with fail
  refine Calls.mono HB.out ?_
  rintro x w1 ⟨rfl, hb1⟩
  have HB1 := hide hb1
  clear hb1 HB
  go_wp2_with fail
  refine Calls.mono (HRu.out _) ?_
  rintro x w2 ⟨⟨y, rfl, hi2⟩, hb2⟩
  obtain ⟨ya, yc, hy⟩ := Rp.isRs_shape hi2
  have HI2 := hide hi2
  have HB2 : Hid (Below w.heap.size w w2) := HB1.out.trans (hb2.mono HB1.out.size)
  have HOf := hide (of_any HI2.out HO.out)
  subst hy
  clear hi2 hb2 HRu HB1
  go_wp2_with fail
  refine Calls.mono HOf.out ?_
  intro x w3 hof
  have HB3 : Hid (Below w.heap.size w w3) := HB2.out.trans (hof.1.mono HB2.out.size)
  have HI3 := hide (isRs_below HI2.out hof.1)
  have HF := hide hof
  have HOr := hide (order_any HI3.out HO.out)
  have hx3 : ∃ mo e3, x = .returned (.tuple #[.map mo, .int .i64 e3]) := by
    rcases hof.2 with ⟨ob, _, _, h, _⟩ | ⟨h, _⟩
    · exact ⟨_, _, h⟩
    · exact ⟨_, _, h⟩
  obtain ⟨mo, e3, rfl⟩ := hx3
  clear hof HOf HI2
  go_wp2_with fail
  refine Calls.mono HOr.out ?_
  intro x w4 hor
  have HB4 : Hid (Below w.heap.size w w4) := HB3.out.trans (hor.1.mono HB3.out.size)
  have HI4 := hide (isRs_below HI3.out hor.1)
  have HR := hide hor
  have HHd := hide (heads_any HI4.out HO.out.1)
  have hx4 : ∃ oa oh oc e4, x = .returned (.tuple #[.slice oa oh oc, .int .i64 e4]) := by
    rcases hor.2 with ⟨_, _, _, _, _, _, h, _⟩ | ⟨h, _⟩
    · exact ⟨_, _, _, _, h⟩
    · exact ⟨_, _, _, _, h⟩
  obtain ⟨oa, oh, oc, e4, rfl⟩ := hx4
  clear hor HOr HI3
  go_wp2_with fail
  refine Calls.mono HHd.out ?_
  rintro x w5 ⟨hv, rfl, Hs, hrow, hq, hb5⟩
  have HB5 : Hid (Below w.heap.size w w5) := HB4.out.trans (hb5.mono HB4.out.size)
  have HI5 := hide (isRs_below HI4.out hb5)
  have HQ := hide hq
  have HSt := hide (rstrata_any HI5.out HO.out)
  have HW5 := hide hrow
  have Hb5 := hide hb5
  obtain ⟨ha, hc, hhv⟩ := own_sl hrow
  subst hhv
  have hn30 : Hs.length ≤ 30 := by
    rw [hq.perm.length_eq]
    exact Nat.le_trans (Tj.idsOf_len rs) HO.out.1
  clear hrow hq hb5 HHd HI4
  go_wp2_with fail
  refine Calls.mono HSt.out ?_
  intro x W hst
  have HBW : Hid (Below w.heap.size w W) := HB5.out.trans (hst.1.mono HB5.out.size)
  have HIW := hide (isRs_below HI5.out hst.1)
  have HWh : Hid (W.ownsRow 0 9 1 (.slice ha Hs.length hc) Hs.length (nmRow Hs)) := own_of_cell HW5.out (Fr.of_below (F := fun _ => False) hst.1) (fun _ hk => hk.elim)
  have HA : Hid (∀ V x, Below W.heap.size W V → Calls Try.prog 11 #[.slice ya rs.length yc, .string x] V fun e w2 => ∃ b, e = .returned (.bool b) ∧ (b = true ↔ BackN rs x) ∧ Below V.heap.size V w2) := fun V x hb => recursive_any (isRs_below HIW.out hb) HO.out x
  have HC : Hid (∀ V x, Below W.heap.size W V → Calls Try.prog 12 #[.slice ya rs.length yc, .string x] V fun e w2 => ∃ b, e = .returned (.bool b) ∧ (b = true ↔ BackN rs x) ∧ Below V.heap.size V w2) := fun V x hb => rrec_any (isRs_below HIW.out hb) HO.out x
  have HWn : Hid (∀ V, Below W.heap.size W V → ∀ i (hi : i < Hs.length), ∃ g, ha = some ⟨g, 0, none⟩ ∧ V.cell? ⟨g, i, none⟩ = some (.string Hs[i])) := fun V hb i hi => by
    obtain ⟨g, c, e, _, _, hcc, _⟩ := own_open HWh.out (by omega)
    simp only [Value.slice.injEq] at e
    exact ⟨g, e.1, cell_bel ((hcc i (by omega)).trans (by simp [nmRow, hi])) hb⟩
  clear HSt HI5 HW5
  rcases hst.2 with ⟨sv, Hs', st, rfl, hsr, hq', hl⟩ | ⟨rfl, hno⟩
  · obtain ⟨_, ob, L, s3, h3, hmp, hperm, hl3⟩ := of_yes HF.out hl.sol
    obtain ⟨_, go, co, hh, V, S, s4, h4, ⟨hrow, hrows⟩, hSp, hSs, hl4, hlt4, hex4⟩ := ord_yes HR.out hl.sol
    simp only [Ending.returned.injEq, Value.tuple.injEq, Array.mk.injEq, List.cons.injEq, Value.map.injEq, Value.int.injEq, true_and, and_true, Value.slice.injEq] at h3 h4
    obtain ⟨rfl, rfl⟩ := h3
    obtain ⟨⟨rfl, rfl, rfl⟩, rfl⟩ := h4
    have hHs := HQ.out.one hq'
    subst hHs
    have hS := HQ.out.sorted hSp hSs
    subst hS
    obtain ⟨f, hf⟩ : ∃ f : ByteArray → Int, f = fun x => st (ixN S x) := ⟨_, rfl⟩
    rw [← hf] at hl
    have hw4 : Below w4.heap.size w4 W := Hb5.out.trans (hst.1.mono Hb5.out.size)
    have hw3 : Below w3.heap.size w3 W := HR.out.1.trans (hw4.mono HR.out.1.size)
    have hof3 : ∀ x ∈ S, s3 x = f x := fun x hx => by
      obtain ⟨r, hr, e⟩ := (HQ.out.mem x).1 hx
      rw [← e]; exact hl3.one hl r hr
    have hof4 : ∀ x ∈ S, s4 x = f x := fun x hx => by
      obtain ⟨r, hr, e⟩ := (HQ.out.mem x).1 hx
      rw [← e]; exact hl4.one hl r hr
    have hf0 : ∀ x ∈ S, 0 ≤ f x := fun x hx => by
      obtain ⟨r, hr, e⟩ := (HQ.out.mem x).1 hx
      rw [← e]; exact hl.sol.nn r hr
    have HMp : Hid (Mp W ob L f) := (hmp.below hw3).congr (fun x hx => hof3 x (HQ.out.perm.mem_iff.2 (hperm.mem_iff.1 hx)))
    have HLm : Hid (∀ x ∈ S, x ∈ L) := fun x hx => hperm.mem_iff.2 (HQ.out.perm.mem_iff.1 hx)
    have hLl : L.length = S.length := hperm.length_eq.trans HQ.out.perm.length_eq.symm
    have HRow : Hid (W.ownsRow 0 32 1 (.slice (some ⟨go, 0, none⟩) oh oc) oh ((List.range oh).map V)) := own_of_cell hrow (Fr.of_below (F := fun _ => False) hw4) (fun _ hk => hk.elim)
    have HRows : Hid (∀ k, k < oh → W.ownsRow 0 9 1 (V k) (lev f S k).length (nmRow (lev f S k))) := fun k hk => by
      have h1 := own_of_cell (hrows k hk) (Fr.of_below (F := fun _ => False) hw4) (fun _ hk => hk.elim)
      rw [lev_congr hof4] at h1
      exact h1
    have HLt : Hid (∀ x ∈ S, f x < (oh : Int)) := fun x hx => by rw [← hof4 x hx]; exact hlt4 x hx
    have HPos : Hid (∀ k, k < oh → 0 < (lev f S k).length) := fun k hk => lev_pos HQ.out hl hk (hex4.imp id (fun ⟨x, hx, e⟩ => ⟨x, hx, by rw [← hof4 x hx]; exact e⟩))
    have hh30 : oh ≤ 31 := by
      rcases hex4 with h0 | ⟨x, hx, e⟩
      · omega
      · obtain ⟨r, hr, e2⟩ := (HQ.out.mem x).1 hx
        have h1 := hl4.small r hr
        rw [e2] at h1
        have := Tj.idsOf_len rs
        have := HO.out.1
        omega
    have HSt : Hid (∀ i (hi : i < S.length), f S[i] = st i) := fun i hi => by
      rw [hf]
      show st (ixN S S[i]) = st i
      rw [ixN_at HQ.out.asc.nodup (List.getElem?_eq_getElem hi)]
    have HSr := hide hsr
    have HF0 := hide hf0
    obtain ⟨sa, sc, hsv⟩ := own_sl hsr
    subst hsv
    have hnI : (S.length : Int) ≤ 30 := by omega
    have hhI : (oh : Int) ≤ 31 := by omega
    clear hst hq' hmp hperm hl3 hrow hrows hSp hSs hl4 hlt4 hex4 hw4 hw3 hof3 hof4 hf0 hsr hf hl HF HR
    go_wp2_with fail
    go_loopw [14] (fun iv wr => ∃ i : Nat, iv = .int .i64 (i : Int) ∧ i ≤ S.length ∧ Hid (Below W.heap.size W wr)) (fun iv _ => S.length - (intOf iv).toNat)
    case atStart => exact ⟨0, rfl, Nat.zero_le _, Below.refl _ _⟩
    case round =>
      obtain ⟨i, rfl, hi, HBi⟩ := hrel
      by_cases hlt : i < S.length
      · have hltI : (i : Int) < (S.length : Int) := by omega
        have HWi : Hid (∀ V, Below W.heap.size W V → ∃ g, ha = some ⟨g, 0, none⟩ ∧ V.cell? ⟨g, i, none⟩ = some (.string S[i])) := fun V hb => HWn.out V hb i hlt
        have HME : Hid (S.length - (intOf (.int .i64 ((i : Int) + 1))).toNat < S.length - (intOf (.int .i64 (i : Int))).toNat) := by
          show _ < _
          simp [intOf]; omega
        obtain ⟨g, hha, x0⟩ := HWi.out wr HBi.out
        generalize S[i] = x at *
        subst hha
        go_upto_region 12 with fail
        go_cut [59] from 47 to 58 (fun v wc => v = .bool false ∧ Hid (Below W.heap.size W wc))
        case first =>
          refine wp_region_noPanic ?_
          go_region_with (first
            | (go_at_call 11; refine Calls.mono (HA.out _ x (by first | exact HBi.out.drew | exact HB12.out)) ?_; rintro e v5 ⟨b5, rfl, hb5, hB5⟩; have HB11 : Hid (Below W.heap.size W v5) := (by first | exact HBi.out.drew.trans (hB5.mono HBi.out.drew.size) | exact HB12.out.trans (hB5.mono HB12.out.size)); have xA := HWi.out v5 HB11.out; obtain ⟨gA, eA, xA⟩ := xA; simp only [Option.some.injEq, Addr.mk.injEq, and_true] at eA; subst eA)
            | (go_at_call 12; refine Calls.mono (HC.out _ x (by first | exact HBi.out.drew | exact HB11.out)) ?_; rintro e v6 ⟨b6, rfl, hb6, hB6⟩; have HB12 : Hid (Below W.heap.size W v6) := (by first | exact HBi.out.drew.trans (hB6.mono HBi.out.drew.size) | exact HB11.out.trans (hB6.mono HB11.out.size)); have xC := HWi.out v6 HB12.out; obtain ⟨gC, eC, xC⟩ := xC; simp only [Option.some.injEq, Addr.mk.injEq, and_true] at eC; subst eC))
          all_goals refine NoPanic.normal ?_
          all_goals have hne := hide (both hb5 hb6)
          all_goals clear HA HC HWi
          all_goals go_wp2_with fail
          all_goals go_meet
          all_goals first | exact ⟨by rw [hne.out]; simp, HB12⟩ | exact ⟨by rw [hne.out]; simp, HB11⟩
        case rest =>
          obtain ⟨rfl, HBc⟩ := hcut
          clear x0
          go_wp2_with fail
          exact ⟨⟨i + 1, by simp, by omega, HBc⟩, HME.out⟩
      · have hge : ¬ ((i : Int) < (S.length : Int)) := by omega
        have hlen := (HMp.out.below HBi.out).len
        rw [hLl] at hlen
        have HBx := hide HBi.out
        clear HBi
        go_wp2_with fail
        have HZ : Hid (cnt f S 0 = 0) := cnt_zero HF0.out
        go_loopw [15, 16] (fun av bv wr => ∃ lv : Nat, av = .int .i64 ((cnt f S (lv : Int) : Nat) : Int) ∧ bv = .int .i64 (lv : Int) ∧ lv ≤ oh ∧ Hid (Below W.heap.size W wr)) (fun _ bv _ => oh - (intOf bv).toNat)
        case atStart => exact ⟨0, by rw [show ((0 : Nat) : Int) = 0 from rfl, HZ.out]; rfl, rfl, Nat.zero_le _, HBx⟩
        case round =>
          obtain ⟨lv, rfl, rfl, hlv, HBl⟩ := hrel
          by_cases hlo : lv < oh
          · have hloI : (lv : Int) < (oh : Int) := by omega
            have HME : Hid (oh - (intOf (.int .i64 ((lv : Int) + 1))).toNat < oh - (intOf (.int .i64 (lv : Int))).toNat) := by
              show _ < _
              simp [intOf]; omega
            obtain ⟨c0, HC0⟩ : ∃ c0 : Nat, Hid (cnt f S (lv : Int) = c0) := ⟨_, rfl⟩
            have HC1 : Hid (cnt f S ((lv : Int) + 1) = c0 + (lev f S lv).length) := by
              have h1 := cnt_next (f := f) (Hs := S) lv
              rw [HC0.out] at h1
              exact h1
            have HP := hide (HPos.out lv hlo)
            have HT0 : Hid ((lev f (S.take 0) lv).length = 0) := rfl
            have HcS : Hid (c0 + (lev f S lv).length ≤ S.length) := by
              have h1 := HC1.out
              have h2 : cnt f S ((lv : Int) + 1) ≤ S.length := List.countP_le_length
              show _ ≤ _
              omega
            rw [HC0.out]
            have hOv : ∀ V', Below W.heap.size W V' → V'.cell? ⟨go, lv, none⟩ = some (V lv) := fun V' hb => by
              obtain ⟨g, c, e, _, _, hcc, _⟩ := own_open HRow.out (by omega)
              simp only [Value.slice.injEq, Option.some.injEq, Addr.mk.injEq, and_true] at e
              obtain ⟨rfl, _⟩ := e
              exact cell_bel ((hcc lv (by omega)).trans (by simp [hlo])) hb
            have HOv := hide hOv
            obtain ⟨g2, c2, hV, _, _, hcell, _⟩ := own_open (HRows.out lv hlo) HP.out
            have HV : Hid (∀ V', Below W.heap.size W V' → ∀ k x, (lev f S lv)[k]? = some x → V'.cell? ⟨g2, k, none⟩ = some (.string x)) := fun V' hb k x hk => by
              have hk2 := (List.getElem?_eq_some_iff.1 hk).1
              exact cell_bel ((hcell k (by omega)).trans (by simp [nmRow, hk])) hb
            rw [hV] at HOv
            clear hOv hV hcell
            go_wp2_with fail
            go_loopw [15, 17, 18] (fun av kv iv wr => ∃ i : Nat, av = .int .i64 ((c0 + (lev f (S.take i) lv).length : Nat) : Int) ∧ kv = .int .i64 (((lev f (S.take i) lv).length : Nat) : Int) ∧ iv = .int .i64 (i : Int) ∧ i ≤ S.length ∧ Hid (Below W.heap.size W wr)) (fun _ _ iv _ => S.length - (intOf iv).toNat)
            case atStart => exact ⟨0, by rw [HT0.out]; rfl, by rw [HT0.out]; rfl, rfl, Nat.zero_le _, HBl⟩
            case round =>
              obtain ⟨i, rfl, rfl, rfl, hi, HBi⟩ := hrel
              by_cases hlt : i < S.length
              · have hltI : (i : Int) < (S.length : Int) := by omega
                have HM3 : Hid (S.length - (intOf (.int .i64 ((i : Int) + 1))).toNat < S.length - (intOf (.int .i64 (i : Int))).toNat) := by
                  show _ < _
                  simp [intOf]; omega
                obtain ⟨gs, cs, hse, _, _, hscell, _⟩ := own_open HSr.out (by omega)
                simp only [Value.slice.injEq] at hse
                have hsa := hse.1
                have s0 : wr.cell? ⟨gs, i, none⟩ = some (.int .i64 (f S[i])) := by
                  rw [HSt.out i hlt]
                  exact cell_bel ((hscell i (by omega)).trans (by simp [rowI, hlt])) HBi.out
                clear hse hscell
                subst hsa
                by_cases hfe : f S[i] = (lv : Int)
                · obtain ⟨t1, t2, t3⟩ := lev_take hlt hfe
                  obtain ⟨g, hha, x0⟩ := HWn.out wr HBi.out i hlt
                  have o0 := HOv.out wr HBi.out
                  have p0 := HV.out wr HBi.out _ _ t1
                  have M0 : Hid (∀ n, (Instr.lookup 25 (.map (some ob)) (.string S[i]) false).run Try.prog (wr.drewN n) = .ok (.int .i64 (lv : Int)) (wr.drewN n)) := fun n => by
                    rw [← hfe]
                    exact (HMp.out.below (bel_drewN HBi.out n)).get (HLm.out _ (List.getElem_mem hlt))
                  rw [hfe] at s0
                  have T2 := hide t2
                  have hcS := HcS.out
                  clear t1 t2 hfe
                  generalize S[i] = x at *
                  subst hha
                  obtain ⟨k, HK⟩ : ∃ k, Hid ((lev f (S.take i) lv).length = k) := ⟨_, rfl⟩
                  rw [HK.out] at t3 p0 T2
                  rw [HK.out]
                  obtain ⟨m, Hm⟩ : ∃ m, Hid ((lev f S lv).length = m) := ⟨_, rfl⟩
                  rw [Hm.out] at t3 o0 hcS
                  obtain ⟨a0, HA0⟩ : ∃ a0, Hid (c0 + k = a0) := ⟨_, rfl⟩
                  have ha0 : (a0 : Int) ≤ 30 := by have := HA0.out; omega
                  rw [HA0.out]
                  have hk30 : (k : Int) ≤ 30 := by omega
                  have hkm : ¬ ((m : Int) ≤ (k : Int)) := by omega
                  have hkd : decide ((m : Int) ≤ (k : Int)) = false := by simpa using hkm
                  have hkI : (k : Int) < (m : Int) := by omega
                  clear hcS
                  go_upto_region 27 with fail
                  refine wp_region_quiet_lit (by kernel_rfl) (by kernel_rfl) ?_
                  repeat (go_big_quiet_step ((rw [M0.out]; exact ⟨rfl, rfl⟩)))
                  refine wpQuiet_nil ?_
                  intro _ hw'
                  obtain ⟨nq, hw''⟩ := hw'
                  subst hw''
                  have HBn : Hid (Below W.heap.size W (wr.drewN nq)) := bel_drewN HBi.out nq
                  clear M0 s0 x0 o0 p0
                  go_wp2_with fail
                  exact ⟨⟨i + 1, congrArg (Value.int .i64) (by have := HA0.out; have := T2.out; omega), congrArg (Value.int .i64) (by have := T2.out; omega), congrArg (Value.int .i64) (by omega), by omega, HBn⟩, HM3.out⟩
                · have T2 : Hid (lev f (S.take (i + 1)) lv = lev f (S.take i) lv) := lev_skip hlt hfe
                  generalize f S[i] = z at *
                  obtain ⟨k, HK⟩ : ∃ k, Hid ((lev f (S.take i) lv).length = k) := ⟨_, rfl⟩
                  rw [HK.out]
                  obtain ⟨a0, HA0⟩ : ∃ a0, Hid (c0 + k = a0) := ⟨_, rfl⟩
                  rw [HA0.out]
                  go_wp2_with fail
                  exact ⟨⟨i + 1, congrArg (Value.int .i64) (by rw [T2.out]; have := HA0.out; have := HK.out; omega), congrArg (Value.int .i64) (by rw [T2.out]; have := HK.out; omega), congrArg (Value.int .i64) (by omega), by omega, HBi⟩, HM3.out⟩
              · have hge3 : ¬ ((i : Int) < (S.length : Int)) := by omega
                have hie : i = S.length := by omega
                have hta : S.take i = S := by rw [hie]; exact List.take_length
                rw [hta]
                have o0 := HOv.out wr HBi.out
                have hP := HP.out
                obtain ⟨m, Hm⟩ : ∃ m, Hid ((lev f S lv).length = m) := ⟨_, rfl⟩
                rw [Hm.out] at hP o0
                rw [Hm.out]
                obtain ⟨a0, HA0⟩ : ∃ a0, Hid (c0 + m = a0) := ⟨_, rfl⟩
                rw [HA0.out]
                have hm0 : ¬ ((m : Int) = 0) := by omega
                have HC2 : Hid (cnt f S ((lv : Int) + 1) = a0) := HC1.out.trans (by rw [Hm.out, HA0.out])
                clear hta hie
                go_wp2_with fail
                exact ⟨⟨lv + 1, by rw [show ((lv + 1 : Nat) : Int) = (lv : Int) + 1 from by omega, HC2.out], congrArg (Value.int .i64) (by omega), by omega, HBi⟩, HME.out⟩
          · have hgl : ¬ ((lv : Int) < (oh : Int)) := by omega
            have HCA : Hid (cnt f S (lv : Int) = S.length) := cnt_all fun x hx => by
              have := HLt.out x hx
              omega
            rw [HCA.out]
            go_wp2_with fail
            refine Calls.mono (HA.out _ nm HBl.out) ?_
            rintro e v5 ⟨b5, rfl, hb5, hB5⟩
            have HB11 : Hid (Below W.heap.size W v5) := HBl.out.trans (hB5.mono HBl.out.size)
            have hb5' := hide hb5
            clear hB5 HA hb5
            go_wp2_with fail
            refine Calls.mono (HC.out _ nm HB11.out) ?_
            rintro e v6 ⟨b6, rfl, hb6, hB6⟩
            have HB12 : Hid (Below W.heap.size W v6) := HB11.out.trans (hB6.mono HB11.out.size)
            have hne : b5 = b6 := both hb5'.out hb6
            subst hne
            have HE : Hid (Below w.heap.size w v6) := HBW.out.trans (HB12.out.mono HBW.out.size)
            clear hB6 HC hb6 hb5' HB12 HB11
            go_wp2_with fail
            go_ret
            first | exact ⟨rfl, HE.out⟩ | exact ⟨by simp, HE.out⟩
  · obtain ⟨_, h3⟩ := of_no HF.out hno
    obtain ⟨_, h4⟩ := ord_no HR.out hno
    simp only [Ending.returned.injEq, Value.tuple.injEq, Array.mk.injEq, List.cons.injEq, Value.map.injEq, Value.int.injEq, true_and, and_true, Value.slice.injEq] at h3 h4
    obtain ⟨rfl, rfl⟩ := h3
    obtain ⟨⟨rfl, rfl, rfl⟩, rfl⟩ := h4
    have hln : ∀ V ty, (Builtin.len_ #[25] ty #[.map none]).run Try.prog V = .ok (.int .i64 0) V := fun V ty => Maps.len_nil Try.underlying25 ty
    clear hst hno HF HR
    go_wp2_with fail
    go_loopw [14] (fun iv wr => ∃ i : Nat, iv = .int .i64 (i : Int) ∧ i ≤ Hs.length ∧ Hid (Below W.heap.size W wr)) (fun iv _ => Hs.length - (intOf iv).toNat)
    case atStart => exact ⟨0, rfl, Nat.zero_le _, Below.refl _ _⟩
    case round =>
      obtain ⟨i, rfl, hi, HBi⟩ := hrel
      by_cases hlt : i < Hs.length
      · have hltI : (i : Int) < (Hs.length : Int) := by omega
        have HWi : Hid (∀ V, Below W.heap.size W V → ∃ g, ha = some ⟨g, 0, none⟩ ∧ V.cell? ⟨g, i, none⟩ = some (.string Hs[i])) := fun V hb => HWn.out V hb i hlt
        have HME : Hid (Hs.length - (intOf (.int .i64 ((i : Int) + 1))).toNat < Hs.length - (intOf (.int .i64 (i : Int))).toNat) := by
          show _ < _
          simp [intOf]; omega
        obtain ⟨g, hha, x0⟩ := HWi.out wr HBi.out
        generalize Hs[i] = x at *
        subst hha
        go_upto_region 12 with fail
        go_cut [59] from 47 to 58 (fun v wc => v = .bool false ∧ Hid (Below W.heap.size W wc))
        case first =>
          refine wp_region_noPanic ?_
          go_region_with (first
            | (go_at_call 11; refine Calls.mono (HA.out _ x (by first | exact HBi.out.drew | exact HB12.out)) ?_; rintro e v5 ⟨b5, rfl, hb5, hB5⟩; have HB11 : Hid (Below W.heap.size W v5) := (by first | exact HBi.out.drew.trans (hB5.mono HBi.out.drew.size) | exact HB12.out.trans (hB5.mono HB12.out.size)); have xA := HWi.out v5 HB11.out; obtain ⟨gA, eA, xA⟩ := xA; simp only [Option.some.injEq, Addr.mk.injEq, and_true] at eA; subst eA)
            | (go_at_call 12; refine Calls.mono (HC.out _ x (by first | exact HBi.out.drew | exact HB11.out)) ?_; rintro e v6 ⟨b6, rfl, hb6, hB6⟩; have HB12 : Hid (Below W.heap.size W v6) := (by first | exact HBi.out.drew.trans (hB6.mono HBi.out.drew.size) | exact HB11.out.trans (hB6.mono HB11.out.size)); have xC := HWi.out v6 HB12.out; obtain ⟨gC, eC, xC⟩ := xC; simp only [Option.some.injEq, Addr.mk.injEq, and_true] at eC; subst eC))
          all_goals refine NoPanic.normal ?_
          all_goals have hne := hide (both hb5 hb6)
          all_goals clear HA HC HWi
          all_goals go_wp2_with fail
          all_goals go_meet
          all_goals first | exact ⟨by rw [hne.out]; simp, HB12⟩ | exact ⟨by rw [hne.out]; simp, HB11⟩
        case rest =>
          obtain ⟨rfl, HBc⟩ := hcut
          clear x0
          go_wp2_with fail
          exact ⟨⟨i + 1, by simp, by omega, HBc⟩, HME.out⟩
      · have hge : ¬ ((i : Int) < (Hs.length : Int)) := by omega
        have HE : Hid (Below w.heap.size w wr) := HBW.out.trans (HBi.out.mono HBW.out.size)
        clear HA HC HWn
        go_wp2_with fail
        go_ret
        exact ⟨rfl, HE.out⟩
end Go.Proofs.Ytdmhajeaphnebaa.Gr
namespace Go.Proofs.Ytdmhajeaphnebaa.Ps
open Go.RowKit
open Lx (Wd tx bs)
open Sy
open Tj (NSol NLeast hdN isP ng BackN idsOf heads_ids)
theorem tx_app (a b : List UInt8) : tx a ++ tx b = tx (a ++ b) := by
  refine ByteArray.ext ?_
  simp [tx, ByteArray.data_append]
theorem tx_size (a : List UInt8) : (tx a).size = a.length := by simp [tx, ByteArray.size]
theorem body_snoc : ∀ (l : List Bool) (i : Nat) (b : Bool), bodyT i (l ++ [b]) = bodyT i l ++ clT (nmL (i + l.length + 1)) b (nmL (i + l.length)) [46, 32]
  | [], i, b => by simp [bodyT]
  | c :: r, i, b => by
    rw [List.cons_append, bodyT, bodyT, body_snoc r (i + 1) b, List.append_assoc, List.length_cons, show i + 1 + r.length = i + (r.length + 1) from by omega]
/-- The text as far as i rules of the chain. -/
def texT (sg : List Bool) (i : Nat) : List UInt8 := clT (nmL 0) false [98, 97, 115, 101] [46, 32] ++ bodyT 0 (sg.take i)
theorem tex_next {sg : List Bool} {i : Nat} (h : i < sg.length) : texT sg (i + 1) = texT sg i ++ clT (nmL (i + 1)) sg[i] (nmL i) [46, 32] := by
  unfold texT
  rw [List.take_succ_eq_append_getElem h, body_snoc, List.append_assoc, List.length_take, Nat.min_eq_left (by omega), Nat.zero_add]
theorem tex_false {sg : List Bool} {i : Nat} (h : i < sg.length) (hb : sg[i] = false) {S : ByteArray} (hS : S = tx (texT sg i)) : S ++ (nmS (i + 1) ++ ⟨#[32, 58, 45, 32]⟩) ++ (nmS i ++ ⟨#[46, 32]⟩) = tx (texT sg (i + 1)) := by
  rw [hS, tex_next h, hb, show (⟨#[32, 58, 45, 32]⟩ : ByteArray) = tx [32, 58, 45, 32] from rfl, show (⟨#[46, 32]⟩ : ByteArray) = tx [46, 32] from rfl]
  unfold nmS
  simp only [tx_app, clT, List.append_assoc]
  rfl
theorem tex_true {sg : List Bool} {i : Nat} (h : i < sg.length) (hb : sg[i] = true) {S : ByteArray} (hS : S = tx (texT sg i)) : S ++ (nmS (i + 1) ++ ⟨#[32, 58, 45, 32]⟩) ++ ⟨#[33]⟩ ++ (nmS i ++ ⟨#[46, 32]⟩) = tx (texT sg (i + 1)) := by
  rw [hS, tex_next h, hb, show (⟨#[32, 58, 45, 32]⟩ : ByteArray) = tx [32, 58, 45, 32] from rfl, show (⟨#[46, 32]⟩ : ByteArray) = tx [46, 32] from rfl, show (⟨#[33]⟩ : ByteArray) = tx [33] from rfl]
  unfold nmS
  simp only [tx_app, clT, List.append_assoc]
  rfl
theorem tex_zero (sg : List Bool) : nmS 0 ++ ⟨#[32, 58, 45, 32, 98, 97, 115, 101, 46, 32]⟩ = tx (texT sg 0) := by
  unfold texT
  rw [List.take_zero]
  rfl
theorem tex_len {sg : List Bool} {i : Nat} (h : i ≤ 20) : (tx (texT sg i)).size ≤ 300 := by
  rw [tx_size]
  unfold texT
  have := body_len (sg.take i) 0
  have h2 : (sg.take i).length ≤ i := List.length_take_le _ _
  simp [clT, nmL]
  omega
theorem tex_end {sg : List Bool} {S : ByteArray} (hS : S = tx (texT sg sg.length)) : S = tx (chainT sg false) := by
  rw [hS]
  unfold texT chainT
  rw [List.take_length]
  simp
theorem tex_close {sg : List Bool} {S : ByteArray} (hS : S = tx (texT sg sg.length)) : S ++ (nmS 0 ++ ⟨#[32, 58, 45, 32]⟩ ++ nmS sg.length ++ ⟨#[46]⟩) = tx (chainT sg true) := by
  rw [hS, show (⟨#[32, 58, 45, 32]⟩ : ByteArray) = tx [32, 58, 45, 32] from rfl, show (⟨#[46]⟩ : ByteArray) = tx [46] from rfl]
  unfold texT chainT nmS
  rw [List.take_length]
  simp only [tx_app, clT, List.append_assoc]
  rfl
theorem nm_size (i : Nat) : (nmS i).size = 3 := by unfold nmS; rw [tx_size]; rfl
theorem sgc_le {sg : List Bool} : ∀ {i : Nat}, i ≤ sg.length → sgc sg i ≤ i
  | 0, _ => by rw [sgc_zero]; omega
  | i + 1, h => by
    have ih := sgc_le (sg := sg) (i := i) (by omega)
    rw [sgc_next (List.getElem?_eq_getElem (show i < sg.length by omega))]
    split <;> omega
theorem sgc_mono {sg : List Bool} : ∀ {i : Nat} (d : Nat), i + d ≤ sg.length → sgc sg i ≤ sgc sg (i + d)
  | _, 0, _ => Nat.le_refl _
  | i, d + 1, h => by
    have ih := sgc_mono (sg := sg) (i := i) d (by omega)
    rw [← Nat.add_assoc, sgc_next (List.getElem?_eq_getElem (show i + d < sg.length by omega))]
    omega
theorem sgc_top {sg : List Bool} {i : Nat} (h : i ≤ sg.length) : sgc sg i ≤ sgc sg sg.length := by
  have := sgc_mono (sg := sg) (i := i) (sg.length - i) (by omega)
  rwa [show i + (sg.length - i) = sg.length from by omega] at this
/-- Where the chain has strata they are as many as there are signs, and one. -/
theorem chain_high {sg : List Bool} {k : Bool} (hl : sg.length ≤ 20) (hk : k = true → sgc sg sg.length = 0) {s : ByteArray → Int} {S : List ByteArray} {h : Nat} (hS : S.Perm (idsOf (chainR sg k))) (hs : NLeast (chainR sg k) s) (h1 : ∀ x ∈ S, s x < (h : Int)) (h2 : h = 0 ∨ ∃ x ∈ S, s x + 1 = (h : Int)) : h = sgc sg sg.length + 1 := by
  have hle := chain_least (k := k) hl hk
  have at_ : ∀ i, i ≤ sg.length → s (nmS i) = (sgc sg i : Nat) := fun i hi => by
    obtain ⟨r, hr, e⟩ := nm_head (sg := sg) (k := k) hi
    have := hs.one hle r hr
    rw [e, chF_at (by omega)] at this
    exact this
  have h3 := h1 (nmS sg.length) (hS.mem_iff.2 (nm_ids (Nat.le_refl _)))
  rw [at_ _ (Nat.le_refl _)] at h3
  rcases h2 with h2 | ⟨x, hx, h2⟩
  · omega
  · obtain ⟨r, hr, e⟩ := ((heads_ids _).mem x).1 (hS.mem_iff.1 hx)
    obtain ⟨i, hi, e2⟩ := head_nm hr
    have e3 : x = nmS i := e.symm.trans e2
    rw [e3, at_ i hi] at h2
    have := sgc_top hi
    omega
theorem chain_at {sg : List Bool} {k : Bool} (hl : sg.length ≤ 20) (hk : k = true → sgc sg sg.length = 0) {s : ByteArray → Int} (hs : NLeast (chainR sg k) s) {i : Nat} (hi : i ≤ sg.length) : s (nmS i) = (sgc sg i : Nat) := by
  obtain ⟨r, hr, e⟩ := nm_head (sg := sg) (k := k) hi
  have := hs.one (chain_least (k := k) hl hk) r hr
  rw [e, chF_at (by omega)] at this
  exact this
theorem ids_count {sg : List Bool} {k : Bool} (hl : sg.length ≤ 20) : (idsOf (chainR sg k)).length = sg.length + 1 := by
  rw [(ids_len (k := k) hl).length_eq]
  simp
/-- A slice of bools that is read. -/
def Bls (w : World) (v : Value) (L : List Bool) : Prop := ∃ ao cap, v = .slice ao L.length cap ∧ L.length ≤ maxLen ∧ (0 < L.length → ∃ g off, ao = some ⟨g, off, none⟩ ∧ ∀ i (h : i < L.length), w.cell? ⟨g, off + i, none⟩ = some (.bool L[i]))
theorem run_min20 (a n : Nat) (hn : n = min a 20) (w : World) (ty : TypeId) : (Builtin.min_ #[3, 3] ty #[.int .i64 (a : Int), .int .i64 20]).run Try.prog w = .ok (.int .i64 (n : Int)) w := by
  have e : (n : Int) = if (20 : Int) < (a : Int) then 20 else (a : Int) := by split <;> omega
  rw [e]
  rfl
end Go.Proofs.Ytdmhajeaphnebaa.Ps

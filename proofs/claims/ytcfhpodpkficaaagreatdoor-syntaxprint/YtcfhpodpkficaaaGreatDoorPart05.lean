/- Numbers in decimal: the reference's dec; Print, both. A table in memory; the walks of New, Len, Term and strings.Clone. The walks of Print, Fact, and of the reference's Print and Atom. The walk of the reference's Atom. -/
import Derived.Test.YtcfhpodpkficaaaGreatDoorPart04
import Derived.Test.YtcfhpodpkficaaaGreatDoorPart01
import Derived.Lib.AppendIntMem
import Derived.Laws.MakeOwn
import Derived.Deep.RegionHeld
namespace Go.Proofs.YtcfhpodpkficaaaGreatDoor.Vl
open Go.RowKit
set_option maxRecDepth 4000

/-- The digits of a number; none of 0. -/
def dg (u : Nat) : List UInt8 := if u = 0 then [] else Lib.decDigits u
theorem dg_step (u : Nat) (h : u ≠ 0) : dg u = dg (u / 10) ++ [UInt8.ofNat (48 + u % 10)] := by
  unfold dg
  rw [if_neg h]
  conv => lhs; rw [Lib.decDigits]
  split
  · rename_i h1
    rw [if_pos (by omega), Nat.mod_eq_of_lt h1]
    rfl
  · rename_i h1
    rw [if_neg (by omega)]

theorem dg_len : ∀ (k u : Nat), u < 10 ^ k → (dg u).length ≤ k
  | 0, u, h => by
    have : u = 0 := by simpa using h
    simp [dg, this]
  | k + 1, u, h => by
    by_cases hu : u = 0
    · simp [dg, hu]
    · rw [dg_step u hu, List.length_append]
      have := dg_len k (u / 10) (by rw [Nat.pow_succ] at h; omega)
      simp
      omega

theorem conv_digit (d : Nat) (hd : d ≤ 9) : ∃ ds : ByteArray, Hid (ds.data.toList = [UInt8.ofNat (48 + d)]) ∧ ds.size = 1 ∧ ∀ (W : World),
    (convert 90 9 (.slice (some ⟨W.heap.size, 0, none⟩) 1 1)).run Tryz.prog (W.alloc (.cells #[.int .u8 (48 + (d : Int))] 5)) = .ok (.string ds) (W.alloc (.cells #[.int .u8 (48 + (d : Int))] 5)) := by
  refine ⟨⟨#[UInt8.ofNat (48 + d)]⟩, rfl, rfl, fun W => ?_⟩
  have h := run_convert_bytes_back (P := Tryz.prog) (W.alloc (.cells #[.int .u8 (48 + (d : Int))] 5)) 90 9 5 ⟨W.heap.size, 0, none⟩ 1 [UInt8.ofNat (48 + d)] Tryz.underlying90 Tryz.underlying5 Tryz.underlying9 (fun j hj => by
    have hj0 : j = 0 := by simpa using hj
    subst hj0
    rw [Addr.add_lit, Nat.zero_add, cell_of_row _ W.heap.size 0 _ _ _ (heap_alloc_new _ _)]
    have : (UInt8.ofNat (48 + d)).toNat = 48 + d := by
      rw [UInt8.toNat_ofNat']
      omega
    simp only [List.getElem_cons_zero, this]
    rfl)
  exact h

theorem tmod_neg (kk : Int) (h : kk < 0) : kk.tmod 10 = -((kk.natAbs % 10 : Nat) : Int) ∧ kk.tdiv 10 = -((kk.natAbs / 10 : Nat) : Int) := by
  obtain ⟨m, rfl⟩ : ∃ m : Nat, kk = -(m : Int) := ⟨kk.natAbs, by omega⟩
  rw [Int.neg_tmod, Int.neg_tdiv]
  have h1 : (-(m : Int)).natAbs = m := by omega
  rw [h1]
  exact ⟨rfl, rfl⟩
theorem tmod_pos (kk : Int) (h : ¬ kk < 0) : kk.tmod 10 = ((kk.natAbs % 10 : Nat) : Int) ∧ kk.tdiv 10 = ((kk.natAbs / 10 : Nat) : Int) := by
  obtain ⟨m, rfl⟩ : ∃ m : Nat, kk = (m : Int) := ⟨kk.natAbs, by omega⟩
  have h1 : (m : Int).natAbs = m := by omega
  rw [h1]
  exact ⟨rfl, rfl⟩
theorem itoa_dg (n : Int) (hn : n ≠ 0) : Lib.itoa n = if n < 0 then 45 :: dg n.natAbs else dg n.natAbs := by
  have hd : dg n.natAbs = Lib.decDigits n.natAbs := by unfold dg; rw [if_neg (by omega)]
  rw [hd]
  unfold Lib.itoa
  split
  · rfl
  · rw [show n.toNat = n.natAbs by omega]
theorem bytes_ext {a b : ByteArray} (h : a.data.toList = b.data.toList) : a = b := by
  cases a
  cases b
  simp at h
  rw [h]
theorem ret_str {a b : ByteArray} (h : a = b) : Ending.returned (.string a) = Ending.returned (.string b) := by rw [h]
theorem bytes_app (a b : ByteArray) : (a ++ b).data.toList = a.data.toList ++ b.data.toList := by simp
theorem size_list (a : ByteArray) : a.size = a.data.toList.length := by simp

set_option maxHeartbeats 2000000 in
theorem dec_some (n : Int) (w : World) (h0 : -2147483648 ≤ n) (h1 : n ≤ 2147483648) (hn : n ≠ 0) :
    Calls Tryz.prog 54 #[.int .i64 n] w fun e w' => e = .returned (.string ⟨(Lib.itoa n).toArray⟩) ∧ Below w.heap.size w w' := by
  have hn' : (n == 0) = false := by simpa using hn
  have hlen : (dg n.natAbs).length ≤ 20 := dg_len 20 _ (by omega)
  go_enter Tryz.func54, Tryz.ntmps54
  go_wp2
  go_loopw [3, 4] (fun s k wr => ∃ (sb : ByteArray) (kk : Int), s = .string sb ∧ k = .int .i64 kk ∧ -2147483648 ≤ kk ∧ kk ≤ 2147483648 ∧ Hid (dg kk.natAbs ++ sb.data.toList = dg n.natAbs) ∧ Below w.heap.size w wr) (fun _ k _ => (intOf k).natAbs)
  case atStart => exact ⟨⟨#[]⟩, n, rfl, rfl, h0, h1, by show _ = _; simp, Below.refl _ _⟩
  case round =>
    obtain ⟨sb, kk, rfl, rfl, k0, k1, HD, hb⟩ := hrel
    have hsb : sb.size ≤ 20 := by
      have := congrArg List.length HD.out
      rw [List.length_append] at this
      rw [size_list]
      omega
    by_cases hz : kk = 0
    · subst hz
      have hsd : sb.data.toList = dg n.natAbs := by simpa [dg] using HD.out
      have HS : Hid _ := hsd
      clear hsd HD
      go_wp2
      · have hneg : n < 0 := by assumption
        go_ret
        refine ⟨ret_str (bytes_ext ?_), hb⟩
        rw [bytes_app, itoa_dg n hn, if_pos hneg, HS.out]
        rfl
      · have hneg : 0 ≤ n := by assumption
        go_ret
        refine ⟨ret_str (bytes_ext ?_), hb⟩
        rw [itoa_dg n hn, if_neg (by omega), HS.out]
    · have hz' : (kk == 0) = false := by simpa using hz
      have hz2 : (kk != 0) = true := by simpa using hz
      obtain ⟨d, Hd⟩ : ∃ d, Hid (d = kk.natAbs % 10) := ⟨_, (rfl : _ = _)⟩
      obtain ⟨q, Hq⟩ : ∃ q, Hid (q = kk.natAbs / 10) := ⟨_, (rfl : _ = _)⟩
      have hd : d ≤ 9 := by have := Hd.out; omega
      have hq : q ≤ 214748365 := by have := Hq.out; omega
      have HM : Hid (q < kk.natAbs) := by
        show _ < _
        rw [Hq.out]
        omega
      obtain ⟨ds, Hds, hds1, hcv⟩ := conv_digit d hd
      have HN : Hid (dg q ++ (ds ++ sb).data.toList = dg n.natAbs) := by
        show _ = _
        rw [bytes_app, Hds.out, ← List.append_assoc, Hq.out, Hd.out, ← dg_step _ (by omega)]
        exact HD.out
      have hcv := hcv wr
      by_cases hneg : kk < 0
      · obtain ⟨e1, e2⟩ := tmod_neg kk hneg
        rw [← Hd.out] at e1
        rw [← Hq.out] at e2
        by_cases hd0 : d = 0
        · subst hd0
          simp only [Int.ofNat_zero, Int.neg_zero, Int.add_zero] at e1 hcv
          go_wp2
          · go_roundw
            case rel => exact ⟨_, -(q : Int), rfl, rfl, by omega, by omega, by rw [show (-(q : Int)).natAbs = q by omega]; exact HN, hb.alloc hb.size _⟩
            case measure => have := HM.out; simp [intOf]; omega
        · have hd1 : 1 ≤ d := by omega
          go_wp2
          · go_roundw
            case rel => exact ⟨_, -(q : Int), rfl, rfl, by omega, by omega, by rw [show (-(q : Int)).natAbs = q by omega]; exact HN, hb.alloc hb.size _⟩
            case measure => have := HM.out; simp [intOf]; omega
      · obtain ⟨e1, e2⟩ := tmod_pos kk hneg
        rw [← Hd.out] at e1
        rw [← Hq.out] at e2
        have hdn : ¬ (d : Int) < 0 := by omega
        go_wp2
        · go_roundw
          case rel => exact ⟨_, (q : Int), rfl, rfl, by omega, by omega, by rw [show ((q : Int)).natAbs = q by omega]; exact HN, hb.alloc hb.size _⟩
          case measure => have := HM.out; simp [intOf]; omega

theorem dec_any (n : Int) (w : World) (h0 : -2147483648 ≤ n) (h1 : n ≤ 2147483648) :
    Calls Tryz.prog 54 #[.int .i64 n] w fun e w' => e = .returned (.string ⟨(Lib.itoa n).toArray⟩) ∧ Below w.heap.size w w' := by
  by_cases hn : n = 0
  · subst hn
    go_enter Tryz.func54, Tryz.ntmps54
    go_wp2
    go_ret
    exact ⟨ret_str (bytes_ext (by simp [Lib.itoa, Lib.decDigits])), Below.refl _ _⟩
  · exact dec_some n w h0 h1 hn
end Go.Proofs.YtcfhpodpkficaaaGreatDoor.Vl
namespace Go.Proofs.YtcfhpodpkficaaaGreatDoor.Vl
open Go.RowKit

def cellsT (L : List Tm) : List Value := L.flatMap fun t => [.int .i64 t.1, .string t.2.1, .int .i64 t.2.2]
theorem cellsT_len : ∀ L : List Tm, (cellsT L).length = L.length * 3
  | [] => rfl
  | t :: r => by
    have := cellsT_len r
    simp [cellsT] at this ⊢
    omega
theorem cellsT_append (a b : List Tm) : cellsT (a ++ b) = cellsT a ++ cellsT b := by simp [cellsT]
theorem cellsT_cons (t : Tm) (b : List Tm) : cellsT (t :: b) = .int .i64 t.1 :: .string t.2.1 :: .int .i64 t.2.2 :: cellsT b := by simp [cellsT]
theorem cellsT_get (L : List Tm) (i : Nat) (h : i < L.length) : (cellsT L)[i * 3]? = some (.int .i64 L[i].1) ∧ (cellsT L)[i * 3 + 1]? = some (.string L[i].2.1) ∧ (cellsT L)[i * 3 + 2]? = some (.int .i64 L[i].2.2) := by
  have e : L = L.take i ++ L[i] :: L.drop (i + 1) := by simp
  have hl : (cellsT (L.take i)).length = i * 3 := by rw [cellsT_len]; simp; omega
  have e2 : cellsT L = cellsT (L.take i) ++ (.int .i64 L[i].1 :: .string L[i].2.1 :: .int .i64 L[i].2.2 :: cellsT (L.drop (i + 1))) := by
    conv => lhs; rw [e]
    rw [cellsT_append, cellsT_cons]
  rw [e2]
  refine ⟨?_, ?_, ?_⟩
  · rw [List.getElem?_append_right (by omega), hl]; simp
  · rw [List.getElem?_append_right (by omega), hl, Nat.add_sub_cancel_left]; rfl
  · rw [List.getElem?_append_right (by omega), hl, Nat.add_sub_cancel_left]; rfl
theorem cellsT_one (L : List Tm) : ∀ u ∈ cellsT L, u.oneCell' = true := by
  intro u hu
  obtain ⟨t, _, hu⟩ := List.mem_flatMap.1 hu
  simp at hu
  rcases hu with rfl | rfl | rfl <;> rfl

end Go.Proofs.YtcfhpodpkficaaaGreatDoor.Vl
namespace Go.Proofs.YtcfhpodpkficaaaGreatDoor.Vl
open Go.RowKit

def Pow10 (w : World) : Prop := Lib.TabIs Tryz.prog w "internal/strconv.uint64pow10" .u64 Lib.pow10Tab
theorem Pow10.below {w w' : World} (h : Pow10 w) (hb : Below w.heap.size w w') : Pow10 w' := Lib.tabBelow_of_tabIs h w' hb
/-- What a number's print asks: it is small, or the powers of ten are laid. -/
def Fm (w : World) (n : Int) : Prop := (0 ≤ n ∧ n < 100) ∨ (Pow10 w ∧ -2147483648 ≤ n ∧ n ≤ 2147483648)
theorem Fm.below {w w' : World} {n : Int} (h : Fm w n) (hb : Below w.heap.size w w') : Fm w' n := by
  rcases h with h | ⟨h, h2⟩
  · exact .inl h
  · exact .inr ⟨h.below hb, h2⟩
theorem format_any (n : Int) (w : World) (h : Fm w n) :
    Calls Tryz.prog 78 #[.int .i64 n, .int .i64 10] w fun e w' => e = .returned (.string ⟨(Lib.itoa n).toArray⟩) ∧ Below w.heap.size w w' := by
  rcases h with ⟨h0, h1⟩ | ⟨h, h0, h1⟩
  · obtain ⟨i, rfl⟩ : ∃ i : Nat, n = i := ⟨n.toNat, by omega⟩
    refine (Tryz.strconv_FormatInt_10_small i (by omega) w).mono ?_
    rintro e w' ⟨rfl, rfl⟩
    rw [Lib.itoa_nonneg]
    exact ⟨rfl, Below.refl _ _⟩
  · refine (Tryz.strconv_FormatInt_10 n (by omega) (by omega) w h).mono ?_
    rintro e w' ⟨rfl, k, os, rfl⟩
    exact ⟨rfl, Lib.below_grow _ _ (Nat.le_refl _) _ _⟩

/-- A constant's text. -/
def prt (t : Tm) : ByteArray := if t.1 = 3 then ⟨(Lib.itoa t.2.2).toArray⟩ else t.2.1

set_option maxHeartbeats 1000000 in
theorem print_any (t : Tm) (w : World) (h : t.1 = 3 → Fm w t.2.2) :
    Calls Tryz.prog 67 #[.agg #[.int .i64 t.1, .string t.2.1, .int .i64 t.2.2]] w fun e w' => e = .returned (.string (prt t)) ∧ Below w.heap.size w w' := by
  by_cases h3 : t.1 = 3
  · have hb3 : (t.1 == 3) = true := by simpa using h3
    have hp : prt t = ⟨(Lib.itoa t.2.2).toArray⟩ := by rw [prt, if_pos h3]
    rw [hp]
    have hf := h h3
    have HF : Hid (∀ o, Calls Tryz.prog 78 #[.int .i64 t.2.2, .int .i64 10] (w.alloc o) fun e w' => e = .returned (.string ⟨(Lib.itoa t.2.2).toArray⟩) ∧ Below (w.alloc o).heap.size (w.alloc o) w') := fun o => format_any _ _ (hf.below (below_box w o))
    clear h hp h3 hf
    generalize t.1 = k at *
    go_enter Tryz.func67, Tryz.ntmps67
    go_wp2_with (go_at_call 78; refine (HF.out _).mono ?_; rintro e w' ⟨rfl, hb⟩)
    go_ret
    exact ⟨rfl, (below_box _ _).trans (hb.mono (by simp))⟩
  · have hb3 : (t.1 == 3) = false := by simpa using h3
    have hp : prt t = t.2.1 := by rw [prt, if_neg h3]
    rw [hp]
    clear h hp h3
    generalize t.1 = k at *
    go_enter Tryz.func67, Tryz.ntmps67
    go_wp2
    go_ret
    exact ⟨rfl, below_box _ _⟩

set_option maxHeartbeats 1000000 in
theorem printRef_any (t : Tm) (w : World) (h : t.1 = 3 → -2147483648 ≤ t.2.2 ∧ t.2.2 ≤ 2147483648) :
    Calls Tryz.prog 33 #[.agg #[.int .i64 t.1, .string t.2.1, .int .i64 t.2.2]] w fun e w' => e = .returned (.string (prt t)) ∧ Below w.heap.size w w' := by
  by_cases h3 : t.1 = 3
  · have hb3 : (t.1 == 3) = true := by simpa using h3
    have hp : prt t = ⟨(Lib.itoa t.2.2).toArray⟩ := by rw [prt, if_pos h3]
    rw [hp]
    have HF : Hid _ := h h3
    clear h hp h3
    generalize t.1 = k at *
    go_enter Tryz.func33, Tryz.ntmps33
    go_wp2_with (go_at_call 54; refine (dec_any _ _ HF.out.1 HF.out.2).mono ?_; rintro e w' ⟨rfl, hb⟩)
    go_ret
    exact ⟨rfl, (below_box _ _).trans (hb.mono (by simp))⟩
  · have hb3 : (t.1 == 3) = false := by simpa using h3
    have hp : prt t = t.2.1 := by rw [prt, if_neg h3]
    rw [hp]
    clear h hp h3
    generalize t.1 = k at *
    go_enter Tryz.func33, Tryz.ntmps33
    go_wp2
    go_ret
    exact ⟨rfl, below_box _ _⟩
end Go.Proofs.YtcfhpodpkficaaaGreatDoor.Vl
namespace Go.Proofs.YtcfhpodpkficaaaGreatDoor.Vl
open Go.RowKit

/-- A slice of terms in memory. -/
def Ts (w : World) (v : Value) (L : List Tm) : Prop :=
  ∃ ao cap, v = .slice ao L.length cap ∧ L.length ≤ cap ∧ (0 < L.length → ∃ g off, ao = some ⟨g, off, none⟩ ∧ ∀ i (h : i < L.length), w.cell? ⟨g, off + i * 3, none⟩ = some (.int .i64 L[i].1) ∧ w.cell? ⟨g, off + i * 3 + 1, none⟩ = some (.string L[i].2.1) ∧ w.cell? ⟨g, off + i * 3 + 2, none⟩ = some (.int .i64 L[i].2.2))
theorem Ts.kept {w w' : World} {v : Value} {L : List Tm} (h : Ts w v L) {F : Nat → Prop} (hf : Fr F w w') (hn : ∀ a n c, v = .slice (some a) n c → ¬ F a.block) : Ts w' v L := by
  obtain ⟨ao, cap, rfl, h1, h2⟩ := h
  refine ⟨ao, cap, rfl, h1, fun hp => ?_⟩
  obtain ⟨g, off, rfl, hc⟩ := h2 hp
  refine ⟨g, off, rfl, fun i hi => ?_⟩
  have hF := hn _ _ _ rfl
  exact ⟨hf.cell (hc i hi).1 hF, hf.cell (hc i hi).2.1 hF, hf.cell (hc i hi).2.2 hF⟩
theorem Ts.below {w w' : World} {v : Value} {L : List Tm} (h : Ts w v L) (hb : Below w.heap.size w w') : Ts w' v L :=
  h.kept (F := fun _ => False) (Fr.of_below hb) (fun _ _ _ _ hf => hf)

def prtL (L : List Tm) : List (List UInt8) := L.map fun t => (prt t).data.toList
theorem join_snoc (xs : List (List UInt8)) (x sep : List UInt8) : Lib.join (xs ++ [x]) sep = if xs = [] then x else Lib.join xs sep ++ sep ++ x := by
  cases xs with
  | nil => simp [Lib.join_one]
  | cons y r =>
    rw [List.cons_append, Lib.join_cons, Lib.join_cons, if_neg (by simp)]
    simp [Lib.joinTail, List.append_assoc]
/-- The text of a name with terms. -/
def factL (name : ByteArray) (L : List Tm) : List UInt8 := if L = [] then name.data.toList else name.data.toList ++ [40] ++ Lib.join (prtL L) [44, 32] ++ [41]
def factS (name : ByteArray) (L : List Tm) : ByteArray := ⟨(factL name L).toArray⟩

theorem prtL_take (L : List Tm) (k : Nat) (h : k < L.length) : prtL (L.take (k + 1)) = prtL (L.take k) ++ [(prt L[k]).data.toList] := by
  unfold prtL
  rw [List.take_add_one, List.getElem?_eq_getElem h, List.map_append]
  rfl

set_option maxHeartbeats 2000000 in
theorem atom_any (name : ByteArray) (v : Value) (L : List Tm) (w : World) (h : Ts w v L) (hl : L.length ≤ 1000) (hname : name.size ≤ 1000000) (hp : ∀ t ∈ L, (prt t).size ≤ 1000) (hn : ∀ t ∈ L, t.1 = 3 → -2147483648 ≤ t.2.2 ∧ t.2.2 ≤ 2147483648) :
    Calls Tryz.prog 32 #[.string name, v] w fun e w' => e = .returned (.string (factS name L)) ∧ Below w.heap.size w w' := by
  obtain ⟨ao, cap, rfl, h1, h2⟩ := h
  by_cases hz : L = []
  · subst hz
    have e : factS name [] = name := bytes_ext (by simp [factS, factL])
    rw [e]
    clear h2
    go_enter Tryz.func32, Tryz.ntmps32
    go_wp2
    go_ret
    exact ⟨rfl, Below.refl _ _⟩
  · have hpos : 0 < L.length := List.length_pos_iff.2 hz
    obtain ⟨g, off, rfl, hc⟩ := h2 hpos
    have hz' : ((L.length : Int) == 0) = false := by rw [beq_eq_false_iff_ne]; omega
    have HC : Hid _ := hc
    clear h2 hc
    go_enter Tryz.func32, Tryz.ntmps32
    go_wp2
    go_loopw [5, 6] (fun s i wr => ∃ (sb : ByteArray) (k : Nat), s = .string sb ∧ i = .int .i64 k ∧ k ≤ L.length ∧ sb.size ≤ name.size + 1 + 1002 * k ∧ Hid (sb.data.toList = name.data.toList ++ [40] ++ Lib.join (prtL (L.take k)) [44, 32]) ∧ Below w.heap.size w wr) (fun _ i _ => L.length - (intOf i).toNat)
    case atStart => exact ⟨_, 0, rfl, rfl, Nat.zero_le _, by rw [size_list, bytes_app, List.length_append, ← size_list]; simp, by show _ = _; rw [bytes_app]; simp [prtL, Lib.join_nil], Below.refl _ _⟩
    case round =>
      obtain ⟨sb, k, rfl, rfl, hk, hsz, HS, hb⟩ := hrel
      by_cases hlt : k < L.length
      · have c := HC.out k hlt
        have c0 := (World.cell?_of_block (hb.block g (World.block_lt_of_cell? w _ c.1))).trans c.1
        have c1 := (World.cell?_of_block (hb.block g (World.block_lt_of_cell? w _ c.1))).trans c.2.1
        have c2 := (World.cell?_of_block (hb.block g (World.block_lt_of_cell? w _ c.1))).trans c.2.2
        have HP : Hid (∀ W, Calls Tryz.prog 33 #[.agg #[.int .i64 L[k].1, .string L[k].2.1, .int .i64 L[k].2.2]] W fun e w' => e = .returned (.string (prt L[k])) ∧ Below W.heap.size W w') := fun W => printRef_any L[k] W (hn _ (List.getElem_mem hlt))
        have hps := hp _ (List.getElem_mem hlt)
        have HT := prtL_take L k hlt
        have HT' : Hid _ := HT
        have hlt' : (k : Int) < (L.length : Int) := by omega
        generalize hP : prt L[k] = P at *
        generalize L[k] = t at *
        clear c HT
        by_cases k0 : k = 0
        · subst k0
          simp only [Nat.zero_mul, Nat.add_zero] at c0 c1 c2
          go_wp2_with (go_at_call 33; refine (HP.out _).mono ?_; rintro e w' ⟨rfl, hb2⟩)
          go_roundw
          case rel =>
            refine ⟨_, 1, rfl, rfl, by omega, by rw [size_list, bytes_app, List.length_append, ← size_list, ← size_list]; omega, ?_, hb.trans (hb2.mono hb.size)⟩
            show _ = _
            rw [bytes_app, HS.out, HT'.out, join_snoc]
            simp [prtL, Lib.join_nil]
          case measure => simp [intOf]; omega
        · have hk0 : (0 : Int) < (k : Int) := by omega
          go_wp2_with (go_at_call 33; refine (HP.out _).mono ?_; rintro e w' ⟨rfl, hb2⟩)
          go_roundw
          case rel =>
            refine ⟨_, k + 1, rfl, by go_num, by omega, by have e2 : (⟨#[44, 32]⟩ : ByteArray).size = 2 := rfl; rw [size_list, bytes_app, bytes_app, List.length_append, List.length_append, ← size_list, ← size_list, ← size_list, e2]; omega, ?_, hb.trans (hb2.mono hb.size)⟩
            show _ = _
            rw [bytes_app, bytes_app, HS.out, HT'.out, join_snoc, if_neg (by
              intro e
              have := congrArg List.length e
              rw [prtL, List.length_map, List.length_take] at this
              simp only [List.length_nil] at this
              omega)]
            simp [List.append_assoc]
          case measure => simp [intOf]; omega
      · have hke : k = L.length := by omega
        subst hke
        go_wp2
        go_ret
        refine ⟨ret_str (bytes_ext ?_), hb⟩
        rw [bytes_app, HS.out, List.take_of_length_le (Nat.le_refl _)]
        simp [factS, factL, hz]
end Go.Proofs.YtcfhpodpkficaaaGreatDoor.Vl

/- The walk of the law DiskTorn. -/
import Derived.Test.YtleelemcmnlfiaaMoves
namespace Go.Proofs.Ytleelemcmnlfiaa
open Go.RowKit

def ati (z : List Int) (j : Nat) : Int := z.getD j 0
def sy : List UInt8 := [115, 121, 110, 99]
def zz (k : Nat) : List UInt8 := List.replicate k 0
theorem zz_len (k : Nat) : (zz k).length = k := List.length_replicate
theorem zz_add (a b : Nat) : zz a ++ zz b = zz (a + b) := List.replicate_append_replicate
theorem zz_take (k t : Nat) : (zz k).take t = zz (min k t) := by unfold zz; rw [List.take_replicate, Nat.min_comm]
def tS (ks : List Nat) : St := ⟨1048576, [⟨nmF, sy⟩], ks.map fun k => .app nmF (zz k)⟩
theorem ap_f (X b : List UInt8) : ap [⟨nmF, X⟩] (.app nmF b) = [⟨nmF, X ++ b⟩] := by simp [ap, look, del, ins]
theorem run_f : ∀ (ks : List Nat) (X : List UInt8), run [⟨nmF, X⟩] (ks.map fun k => .app nmF (zz k)) = [⟨nmF, X ++ zz ks.sum⟩]
  | [], X => by simp [run, zz]
  | k :: ks, X => by rw [List.map_cons, run_cons, ap_f, run_f ks, List.append_assoc, zz_add, List.sum_cons]
theorem tS_now (ks : List Nat) : (tS ks).now = [⟨nmF, sy ++ zz ks.sum⟩] := run_f ks sy
def wantT (ks : List Nat) (n t : Int) : Nat := (ks.take n.toNat).sum + (if 0 ≤ n ∧ 0 < t then ((ks[n.toNat]?).map fun k => min k t.toNat).getD 0 else 0)
theorem tS_left (ks : List Nat) (n t : Int) : leftOf (tS ks) n t = [⟨nmF, sy ++ zz (wantT ks n t)⟩] := by
  unfold leftOf wantT
  by_cases h0 : 0 ≤ n
  · rw [if_pos h0]
    obtain ⟨m, rfl⟩ : ∃ m : Nat, n = (m : Int) := ⟨n.toNat, by omega⟩
    simp only [Int.toNat_natCast, tS, List.getElem?_map, ← List.map_take, run_f]
    cases hk : ks[m]? with
    | none => simp
    | some k =>
      simp only [Option.map_some, Option.getD_some, torn]
      by_cases ht : t < 0
      · rw [if_pos ht, if_neg (by omega), Nat.add_zero]
      · rw [if_neg ht, ap_f, zz_take, List.append_assoc, zz_add]
        by_cases ht0 : 0 < t
        · rw [if_pos ⟨by omega, ht0⟩]
        · rw [if_neg (by omega), show t.toNat = 0 by omega, Nat.min_zero]
  · rw [if_neg h0, if_neg (by omega), show n.toNat = 0 by omega]
    simp [tS, zz]
theorem want_snoc (ks : List Nat) (k : Nat) (n t : Int) : wantT (ks ++ [k]) n t = wantT ks n t + (if (ks.length : Int) < n then k else 0) + (if (ks.length : Int) = n ∧ 0 < t then min k t.toNat else 0) := by
  unfold wantT
  by_cases h0 : 0 ≤ n
  · obtain ⟨m, rfl⟩ : ∃ m : Nat, n = (m : Int) := ⟨n.toNat, by omega⟩
    simp only [Int.toNat_natCast]
    rcases Nat.lt_trichotomy ks.length m with h | h | h
    · have e1 : (ks ++ [k])[m]? = none := List.getElem?_eq_none (by simp; omega)
      have e2 : ks[m]? = none := List.getElem?_eq_none (by omega)
      rw [e1, e2, List.take_of_length_le (by simp; omega), List.take_of_length_le (by omega), if_pos (by omega : (ks.length : Int) < m), if_neg (by omega : ¬ ((ks.length : Int) = m ∧ 0 < t))]
      simp
    · subst h
      rw [if_neg (by omega : ¬ (ks.length : Int) < ks.length)]
      by_cases ht : 0 < t
      · simp [ht]
      · simp [ht]
    · have e1 : (ks ++ [k])[m]? = ks[m]? := List.getElem?_append_left h
      rw [e1, List.take_append_of_le_length (by omega), if_neg (by omega : ¬ (ks.length : Int) < m), if_neg (by omega : ¬ ((ks.length : Int) = m ∧ 0 < t))]
      simp
  · have e : n.toNat = 0 := by omega
    rw [if_neg (by omega), if_neg (by omega), if_neg (by omega), if_neg (by omega), e]
    simp
theorem sum_le : ∀ (ks : List Nat), (∀ k ∈ ks, k ≤ 49) → ks.sum ≤ 49 * ks.length
  | [], _ => by simp
  | k :: ks, h => by
    have := sum_le ks (fun x hx => h x (by simp [hx]))
    have := h k (by simp)
    rw [List.sum_cons, List.length_cons]
    omega
theorem want_le (ks : List Nat) (n t : Int) (h : ∀ k ∈ ks, k ≤ 49) (hl : ks.length ≤ 20) : wantT ks n t ≤ 1029 := by
  have h1 := sum_le (ks.take n.toNat) (fun k hk => h k (List.mem_of_mem_take hk))
  have h2 : (ks.take n.toNat).length ≤ 20 := by rw [List.length_take]; omega
  have h3 : ((ks[n.toNat]?).map fun k => min k t.toNat).getD 0 ≤ 49 := by
    cases hk : ks[n.toNat]? with
    | none => simp
    | some k =>
      have := h k (List.mem_of_getElem? hk)
      simp only [Option.map_some, Option.getD_some]
      omega
  unfold wantT
  split <;> omega
theorem tS_mass (ks : List Nat) (h : ∀ k ∈ ks, k ≤ 49) (hl : ks.length ≤ 20) : (tS ks).mass ≤ 10000 := by
  have h1 := sum_le ks h
  have h2 : wmass (tS ks).wait = ks.sum + ks.length := by
    show wmass (ks.map fun k => .app nmF (zz k)) = _
    clear h hl h1
    induction ks with
    | nil => rfl
    | cons k ks ih =>
      unfold wmass at ih ⊢
      simp only [List.map_cons, List.sum_cons, List.length_cons, ih, Ch.mass, zz_len]
      omega
  unfold St.mass
  rw [h2]
  simp [tS, mass, sy]
  omega

/-- The disk of the law, behind so many pieces. -/
def TR (w0 w : World) (p : Nat) (ks : List Nat) : Prop := (∃ F, Dk w p (tS ks) F ∧ ∀ k, F k → w0.heap.size ≤ k) ∧ Below w0.heap.size w0 w ∧ (∀ k ∈ ks, k ≤ 49) ∧ ks.length ≤ 20

theorem made_zz (n : Nat) : (madeCells (Value.int .u8 0).cells (n * 1)).toList = cells8 (zz n) := by
  have hz : ∀ j : Nat, (Value.int .u8 0).cells[j % (Value.int .u8 0).cells.size]! = .int .u8 0 := by
    intro j
    have e : (Value.int .u8 0).cells = #[.int .u8 0] := rfl
    rw [e, show (#[Value.int .u8 0] : Array Value).size = 1 from rfl, Nat.mod_one]
    rfl
  unfold madeCells
  rw [show (fun x => (Value.int .u8 0).cells[x % (Value.int .u8 0).cells.size]!) = fun _ => Value.int .u8 0 from funext hz]
  simp [cells8, zz, List.map_const']

theorem TR.step {w0 w : World} {p : Nat} {ks : List Nat} (h : TR w0 w p ks) (k : Nat) (hk : k ≤ 49) (hl : ks.length < 20) :
    ∃ w2 v, (Instr.makeSlice 32 (.int .i64 k) (.int .i64 k)).run Try.prog w = .ok v w2 ∧ (∃ a L c, v = .slice a L c) ∧ Calls Try.prog 13 #[.pointer (some ⟨p, 0, none⟩), .string ⟨#[102]⟩, v] w2 fun e w3 => e = .returned (.int .i64 0) ∧ Hid (TR w0 w3 p (ks ++ [k])) := by
  obtain ⟨⟨F, hD, hF⟩, hb, hks, _⟩ := h
  obtain ⟨i, hi, hz0, hz1, hz2⟩ := info_parts Try.info5
  obtain ⟨w2, hm2, hO2, hg2⟩ := run_make_full (P := Try.prog) w w.heap.size 32 5 i (.int .u8 0) 1 Try.underlying32 hi hz0 hz1 .i64 .i64 k (by rw [hz2]; omega) (by simp [maxLen]; omega) (Nat.le_refl _)
  have hb2 : Below w.heap.size w w2 := (Below.refl _ _).grown hg2 (Nat.le_refl _) (fun k hk => by cases hk)
  rw [made_zz] at hO2
  have hS2 := Sl.of_own (bs := zz k) (by rw [zz_len]; exact hO2)
  have hm := tS_mass ks hks (by omega)
  have hsum := sum_le ks hks
  refine ⟨w2, _, hm2, ⟨_, _, _, rfl⟩, ?_⟩
  refine (append_ok p (tS ks) F nmF _ (zz k) w2 (hD.below hb2) hS2 (by decide +kernel) ?_ (Or.inr (by rw [tS_now]; simp)) (by rw [zz_len]; omega)).mono ?_
  · rw [tS_now]
    show ((used [(⟨nmF, sy ++ zz ks.sum⟩ : Fl)] : Nat) : Int) + _ ≤ 1048576
    simp [used, zz_len, sy]
    omega
  · rintro e w3 ⟨rfl, hD3, hf3⟩
    have hbw2 : Below w0.heap.size w0 w2 := hb.trans (hb2.mono hb.size)
    refine ⟨rfl, ⟨ext F w2 w3, ?_, ?_⟩, hbw2.trans (hf3.below hF hbw2.size), ?_, by simp; omega⟩
    · have e : (tS ks).push (.app nmF (zz k)) = tS (ks ++ [k]) := by simp [St.push, tS]
      rw [← e]
      exact hD3
    · exact own_of_ext hF hbw2.size
    · intro x hx
      rcases List.mem_append.1 hx with hx | hx
      · exact hks x hx
      · simp at hx; omega
/-- What is read behind the crash. -/
theorem TR.last {w0 w : World} {p : Nat} {ks : List Nat} (h : TR w0 w p ks) (n t : Int) :
    Calls Try.prog 20 #[.pointer (some ⟨p, 0, none⟩), .int .i64 n, .int .i64 t] w fun e w7 => ∃ q, e = .returned (.pointer (some ⟨q, 0, none⟩)) ∧ Hid (
      Calls Try.prog 24 #[.pointer (some ⟨q, 0, none⟩), .string ⟨#[102]⟩] w7 fun e w8 => ∃ ao cap, e = .returned (.tuple #[.slice ao (4 + wantT ks n t) cap, .bool true]) ∧ 4 + wantT ks n t ≤ cap ∧ Hid (Sl w8 (.slice ao 4 cap) sy ∧ Below w0.heap.size w0 w8)) := by
  obtain ⟨⟨F, hD, hF⟩, hb, hks, hl⟩ := h
  have hm := tS_mass ks hks (by omega)
  have hw := want_le ks n t hks hl
  refine (crash_any p _ F n t w hD (by omega)).mono ?_
  rintro e w7 ⟨q, rfl, hq, d7, b7⟩
  refine ⟨q, rfl, ?_⟩
  rw [tS_left] at d7
  have b7w : Below w0.heap.size w0 w7 := hb.trans (b7.mono hb.size)
  refine (read_hit q _ _ nmF ⟨nmF, sy ++ zz (wantT ks n t)⟩ w7 d7 (by show look nmF [_] = _; simp [look]) ?_).mono ?_
  · show mass [(⟨nmF, sy ++ zz (wantT ks n t)⟩ : Fl)] + wmass [] + 0 ≤ _
    simp [mass, wmass, sy, zz_len]
    omega
  · rintro e w8 ⟨v8, rfl, hO8, b8⟩
    have hS := Sl.of_own hO8
    obtain ⟨ao, cap, rfl, h1, h2⟩ := hS.shape
    have el : (sy ++ zz (wantT ks n t)).length = 4 + wantT ks n t := by simp [sy, zz_len]; omega
    have ht := hS.take 4 (by rw [el]; omega)
    rw [show (sy ++ zz (wantT ks n t)).take 4 = sy from rfl] at ht
    refine ⟨ao, cap, by rw [← el], by rw [← el]; exact h1, ht, b7w.trans (b8.mono b7w.size)⟩

theorem TR.first (w0 w : World) (hb0 : Below w0.heap.size w0 w) :
    ∃ p, Calls Try.prog 9 #[.int .i64 1048576] w fun e w1 => e = .returned (.pointer (some ⟨p, 0, none⟩)) ∧ Hid (∀ (w1' : World) (vl : Value), Below w1.heap.size w1 w1' → Sl w1' vl sy →
      Calls Try.prog 13 #[.pointer (some ⟨p, 0, none⟩), .string ⟨#[102]⟩, vl] w1' fun e w2 => (∃ c, e = .returned (.int .i64 c)) ∧ Hid (
      Calls Try.prog 17 #[.pointer (some ⟨p, 0, none⟩)] w2 fun e w3 => e = .returned (.tuple #[]) ∧ Hid (TR w0 w3 p []))) := by
  refine ⟨w.heap.size, ?_⟩
  refine (new_any 1048576 w).mono ?_
  rintro e w1 ⟨rfl, d1, b1⟩
  have o1 : ∀ k, ext (fun _ => False) w w1 k → w0.heap.size ≤ k := own_of_ext (fun _ h => h.elim) hb0.size
  refine ⟨rfl, ?_⟩
  intro w1' vl bx hS
  have b1' : Below w0.heap.size w0 w1' := (hb0.trans (b1.mono hb0.size)).trans (bx.mono (Nat.le_trans hb0.size b1.size))
  refine (append_ok _ _ _ nmF vl sy w1' (d1.below bx) hS (by decide +kernel) (hroom sy (by decide)) (Or.inr (by decide)) (by decide)).mono ?_
  rintro e w2 ⟨rfl, d2, f2⟩
  refine ⟨⟨_, rfl⟩, ?_⟩
  have e1 : (⟨roomN 1048576, [], []⟩ : St).push (.app nmF sy) = s1 sy := rfl
  rw [e1] at d2
  have b2 : Below w0.heap.size w0 w2 := b1'.trans (f2.below o1 b1'.size)
  have o2 := own_of_ext (w' := w2) o1 b1'.size
  refine (sync_any _ _ _ w2 d2 (by decide)).mono ?_
  rintro e w3 ⟨rfl, d3, f3⟩
  have e3 : (⟨(s1 sy).room, (s1 sy).now, []⟩ : St) = tS [] := by rw [s1_now]; rfl
  rw [e3] at d3
  exact ⟨rfl, ⟨_, d3, own_of_ext (w' := w3) o2 b2.size⟩, b2.trans (f3.below o2 b2.size), by simp, by simp⟩

set_option maxHeartbeats 4000000 in
set_option maxRecDepth 20000 in
theorem diskTorn_any (ao : Option Addr) (len cap : Nat) (z : List Int) (n t : Int) (w : World) (hrow : 0 < len → ∃ b off, ao = some ⟨b, off, none⟩ ∧ ∀ j, j < len → w.cell? ⟨b, off + j, none⟩ = some (.int .i64 (ati z j))) (hlen : len ≤ maxLen) :
    Calls Try.prog 6 #[.slice ao len cap, .int .i64 n, .int .i64 t] w fun e w' => e = .returned (.bool true) ∧ Below w.heap.size w w' := by
  unfold maxLen at hlen
  have HR : Hid (0 < len → ∃ b off, ao = some ⟨b, off, none⟩ ∧ ∀ j, j < len → w.cell? ⟨b, off + j, none⟩ = some (.int .i64 (ati z j))) := hrow
  have HB : Hid (_) := begun_any w
  clear hrow
  go_enter Try.func6, Try.ntmps6
  go_wp2_with (go_at_call 8; refine Calls.mono HB.out ?_; rintro e w1 ⟨rfl, hb1⟩; obtain ⟨p, hp⟩ := TR.first w w1 hb1; have HP : Hid (_) := hp; clear hp)
  refine Calls.mono HP.out ?_
  rintro e w2 ⟨rfl, H2⟩
  have hcv := Lib.run_convert_bytes_const (P := Try.prog) w2 32 5 #[.int .u8 115, .int .u8 121, .int .u8 110, .int .u8 99] 4 4 Try.underlying32 Try.underlying5
  have hSl : Sl (w2.alloc (.cells #[.int .u8 115, .int .u8 121, .int .u8 110, .int .u8 99] 5 (4, 5))) _ sy := sl_new w2 #[.int .u8 115, .int .u8 121, .int .u8 110, .int .u8 99] sy 5 (4, 5) rfl (by decide)
  have H2' : Hid (_) := H2.out _ _ ((Below.refl _ _).alloc (Nat.le_refl _) _) hSl
  clear hSl H2 HP HB hb1
  go_wp2_with fail
  clear hcv
  refine Calls.mono H2'.out ?_
  rintro e w3 ⟨⟨c3, rfl⟩, H3⟩
  go_wp2_with fail
  refine Calls.mono H3.out ?_
  rintro e w4 ⟨rfl, H4⟩
  clear H2' H3
  go_wp2_with fail
  go_loopw [9, 10] (fun vw vi wr => ∃ ks : List Nat, ks.length ≤ len ∧ ks.length ≤ 20 ∧ vi = .int .i64 ks.length ∧ vw = .int .i64 (4 + (wantT ks n t : Nat) : Int) ∧ Hid (TR w wr p ks)) (fun _ vi _ => 20 - (intOf vi).toNat)
  case atStart => exact ⟨[], by simp, by simp, rfl, by simp [wantT], H4.out⟩
  case round =>
    obtain ⟨ks, hkl, hk20, rfl, rfl, HK⟩ := hrel
    have hW := want_le ks n t HK.out.2.2.1 HK.out.2.2.2
    by_cases hlt : ks.length < len ∧ ks.length < 20
    · obtain ⟨hlt, hlt2⟩ := hlt
      have hlt' : (ks.length : Int) < (len : Int) := by omega
      have hlt2' : (ks.length : Int) < 20 := by omega
      obtain ⟨b, off, rfl, hc⟩ := HR.out (by omega)
      have hcx := (HK.out.2.1.cell (p := ⟨b, off + ks.length, none⟩) (cell_lt (hc ks.length hlt))).trans (hc ks.length hlt)
      clear HR hc
      generalize ati z ks.length = x at *
      obtain ⟨K, hK, hy⟩ : ∃ K : Nat, K ≤ 49 ∧ ((x.tmod 50 = (K : Int) ∧ ¬ ((K : Int) < 0)) ∨ (x.tmod 50 = -(K : Int) ∧ -(K : Int) < 0)) := by
        refine ⟨(x.tmod 50).natAbs, by rw [Int.natAbs_tmod, show Int.natAbs 50 = 50 from rfl]; omega, ?_⟩
        by_cases h : x.tmod 50 < 0
        · exact Or.inr ⟨by omega, by omega⟩
        · exact Or.inl ⟨by omega, by omega⟩
      obtain ⟨w5, v5, hmk, ⟨a5, L5, c5, rfl⟩, hap⟩ := HK.out.step K hK hlt2
      have HA : Hid (_) := hap
      clear hap HK H4
      have hnW : IntKind.i64.wrap (- -(K : Int)) = (K : Int) := by rw [IntKind.wrap_i64]; omega
      have hS := want_snoc ks K n t
      obtain ⟨W', HW'⟩ : ∃ W' : Nat, Hid (W' = wantT (ks ++ [K]) n t) := ⟨_, (rfl : _ = _)⟩
      rw [← HW'.out] at hS
      rcases hy with ⟨hy, hy2⟩ | ⟨hy, hy2⟩
      all_goals (
        go_wp2_with (go_at_call 13; refine Calls.mono HA.out ?_; rintro e w6 ⟨rfl, H6⟩)
        all_goals refine ⟨⟨ks ++ [K], by rw [List.length_append]; simp; omega, by rw [List.length_append]; simp; omega, by congr 1; rw [List.length_append]; simp; try omega, ?_, H6⟩, by simp only [intOf]; omega⟩
        all_goals (
          rw [← HW'.out, hS]
          congr 1
          repeat' split
          all_goals omega))
    · have HE : Hid (_) := HK.out.last n t
      have hcond : decide ((ks.length : Int) < (len : Int)) = true → ¬ (ks.length : Int) < 20 := by
        intro h
        have := of_decide_eq_true h
        omega
      clear HK H4 HR
      obtain ⟨W, HW⟩ : ∃ W : Nat, Hid (W = wantT ks n t) := ⟨_, (rfl : _ = _)⟩
      rw [← HW.out] at HE hW ⊢
      by_cases h1 : (ks.length : Int) < (len : Int)
      all_goals (
        try have h2 : ¬ (ks.length : Int) < 20 := by omega
        clear hcond hlt
        go_wp2_with fail
        refine Calls.mono HE.out ?_
        rintro e w7 ⟨q, rfl, H7⟩
        go_wp2_with fail
        refine Calls.mono H7.out ?_
        rintro e w8 ⟨ao8, cap8, rfl, hc8, H8⟩
        have hst := str_of_sl (P := Try.prog) H8.out.1 32 5 9 Try.underlying32 Try.underlying5 Try.underlying9
        have hfr := fun w' => slice_front ao8 (4 + W) cap8 4 (by omega) hc8 w'
        have HB8 : Hid (_) := H8.out.2
        clear H8 H7 HE
        go_wp2
        go_ret
        exact ⟨by simp [sy], HB8.out⟩)
end Go.Proofs.Ytleelemcmnlfiaa

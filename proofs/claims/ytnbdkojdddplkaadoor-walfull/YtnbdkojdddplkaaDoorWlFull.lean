/- The walk of the law WalFull. -/
import Derived.Test.YtnbdkojdddplkaaDoorWlFile
namespace Go.Proofs.YtnbdkojdddplkaaDoor.Wl
open Go.RowKit Dk

def zz (n : Nat) : List UInt8 := List.replicate n 0
theorem zz_len (n : Nat) : (zz n).length = n := by simp [zz]
theorem made_zz (n : Nat) : (madeCells (Value.int .u8 0).cells (n * 1)).toList = cells8 (zz n) := by
  have hz : ∀ j : Nat, (Value.int .u8 0).cells[j % (Value.int .u8 0).cells.size]! = .int .u8 0 := by
    intro j
    have e : (Value.int .u8 0).cells = #[.int .u8 0] := rfl
    rw [e, show (#[Value.int .u8 0] : Array Value).size = 1 from rfl, Nat.mod_one]
    rfl
  unfold madeCells
  rw [show (fun x => (Value.int .u8 0).cells[x % (Value.int .u8 0).cells.size]!) = fun _ => Value.int .u8 0 from funext hz]
  simp [cells8, zz, List.map_const']

def dK (m k : Nat) : List (List UInt8) := List.replicate k (zz m)
theorem dK_len (m k : Nat) : (dK m k).length = k := by simp [dK]
theorem dK_succ (m k : Nat) : dK m (k + 1) = dK m k ++ [zz m] := by simp [dK, List.replicate_succ']
def fK (m k : Nat) : List UInt8 := fileB 1 (dK m k)
theorem fK_succ (m k : Nat) : fK m (k + 1) = fK m k ++ recB ((k : Int) + 1) (zz m) := by
  unfold fK
  rw [dK_succ, fileB_append, dK_len]
  simp only [fileB, List.append_nil]
  rw [Int.add_comm]
def nowK (m k : Nat) : List Fl := if k = 0 then [] else [⟨nmW, fK m k⟩]
theorem now_succ (m k : Nat) : ap (nowK m k) (.app nmW (recB ((k : Int) + 1) (zz m))) = nowK m (k + 1) := by
  have hn : nowK m (k + 1) = [⟨nmW, fK m k ++ recB ((k : Int) + 1) (zz m)⟩] := by unfold nowK; rw [if_neg (Nat.succ_ne_zero k), fK_succ]
  rw [hn]
  unfold nowK
  by_cases h : k = 0
  · subst h
    rw [if_pos rfl]
    have : fK m 0 = [] := rfl
    rw [this]
    simp [ap, Dk.look, Dk.del, Dk.ins]
  · rw [if_neg h]
    simp [ap, Dk.look, Dk.del, Dk.ins]
theorem now_used (m k : Nat) : used (nowK m k) = (fK m k).length := by
  unfold nowK
  split
  · rename_i h; subst h; rfl
  · simp [used]
theorem fK_le (m : Nat) (hm : m ≤ 300) : ∀ k, k ≤ 300 → (fK m k).length ≤ k * (m + 28)
  | 0, _ => by simp [fK, dK, fileB]
  | k + 1, h => by
    have h1 := fK_le m hm k (by omega)
    have h2 := recB_size ((k : Int) + 1) (zz m) ⟨by omega, by omega⟩ (by rw [zz_len]; omega)
    rw [zz_len] at h2
    rw [fK_succ, List.length_append, Nat.add_mul]
    omega

/-- k records of m bytes are there. -/
def FR (w0 w : World) (p pd R m k : Nat) : Prop := ∃ s F, LW w w0.heap.size p pd s F (if k = 0 then 0 else 1) (dK m k) ∧ s.room = (R : Int) ∧ s.now = nowK m k ∧ s.mass ≤ 400 * k ∧ (∀ j, F j → w0.heap.size ≤ j) ∧ Below w0.heap.size w0 w ∧ (fK m k).length ≤ 3000
theorem may_next (m k : Nat) : mayL (if k = 0 then 0 else 1) (dK m k) ((k : Int) + 1) = true := by
  unfold mayL
  rw [dK_len]
  by_cases h : k = 0
  · subst h; simp
  · simp only [h, if_false]
    simp
    omega

theorem FR.step {w0 w : World} {p pd R m k : Nat} (h : FR w0 w p pd R m k) (hT : ∀ u, Below w0.heap.size w0 u → Fr.Tab u) (hR : R ≤ 3000) (hm : m ≤ 300) (hk : k < 300) :
    ∃ w2 a L c, (Instr.makeSlice 33 (.int .i64 m) (.int .i64 m)).run Tryd.prog w = .ok (.slice a L c) w2 ∧ Hid (Calls Tryd.prog 14 #[.pointer (some ⟨p, 0, none⟩), .int .i64 ((k : Int) + 1), .slice a L c] w2 fun e w3 => ∃ E : Int, e = .returned (.int .i64 E) ∧ ((E = 0 ∧ Hid (FR w0 w3 p pd R m (k + 1))) ∨ (E = 2 ∧ Hid (FR w0 w3 p pd R m k ∧ R < (k + 1) * (m + 28))))) := by
  obtain ⟨s, F, hL, hr, hnow, hms, hF, hb, hf3⟩ := h
  obtain ⟨i, hi, hz0, hz1, hz2⟩ := info_parts Tryd.info5
  obtain ⟨w2, hm2, hO2, hg2⟩ := run_make_full (P := Tryd.prog) w w.heap.size 33 5 i (.int .u8 0) 1 Tryd.underlying33 hi hz0 hz1 .i64 .i64 m (by rw [hz2]; omega) (by simp [maxLen]; omega) (Nat.le_refl _)
  have hb2 : Below w.heap.size w w2 := (Below.refl _ _).grown hg2 (Nat.le_refl _) (fun k hk => by cases hk)
  rw [made_zz] at hO2
  have hO2' : w2.ownsRow w.heap.size 5 1 (.slice (some ⟨w.heap.size, 0, none⟩) m m) (zz m).length (cells8 (zz m)) := by rw [zz_len]; exact hO2
  have hS2 := Sl.of_own hO2'
  have hbw2 : Below w0.heap.size w0 w2 := hb.trans (hb2.mono hb.size)
  have hFlt := hL.dk.lt
  refine ⟨w2, _, _, _, hm2, ?_⟩
  have hrec := recB_size ((k : Int) + 1) (zz m) ⟨by omega, by omega⟩ (by rw [zz_len]; omega)
  rw [zz_len] at hrec
  by_cases hfit : (fK m k).length + (recB ((k : Int) + 1) (zz m)).length ≤ R
  · refine (app_ok w0.heap.size p pd s F _ (dK m k) ((k : Int) + 1) _ (zz m) w2 (hL.below hb2) ⟨hS2, fun a n c e hF' => ?_⟩ (hT w2 hbw2) (by omega) (may_next m k) (by rw [zz_len]; omega) (by rw [hnow, now_used, hr]; omega) (Or.inr (by rw [hnow]; unfold nowK; split <;> simp)) (by omega) (by rw [dK_len]; omega) ?_).mono ?_
    · have h1 := hFlt _ hF'
      have h2 := (hO2'.lt a.block (by rw [e]; rfl)).1
      omega
    · by_cases hk0 : k = 0
      · subst hk0; simp [dK, fileB]
      · rw [if_neg hk0]
        have : (fileB 1 (dK m k)).length = (fK m k).length := rfl
        omega
    · rintro e w3 ⟨rfl, F', hL3, hF3, hf⟩
      have hs2 := hbw2.size
      refine ⟨0, rfl, Or.inl ⟨rfl, s.push (.app nmW (recB ((k : Int) + 1) (zz m))), F', ?_, hr, ?_, ?_, fun j hj => ?_, hbw2.trans (hf.below (fun j hj => ?_) hs2), ?_⟩⟩
      · rw [dK_succ, if_neg (by omega)]
        rw [dK_len] at hL3
        by_cases hk0 : k = 0
        · subst hk0; exact hL3
        · rw [if_neg hk0, if_neg hk0] at hL3; exact hL3
      · rw [St.push_now, hnow, now_succ]
      · rw [St.push_mass]
        simp only [Ch.mass]
        omega
      · rcases hF3 j hj with hh | hh
        · exact hF j hh
        · omega
      · rcases hj with hh | hh
        · exact hF j hh
        · exact hh
      · rw [fK_succ, List.length_append]
        omega
  · have hkl := fK_le m hm k (by omega)
    refine (app_full w0.heap.size p pd s F _ (dK m k) ((k : Int) + 1) _ (zz m) w2 (hL.below hb2) hS2 (hT w2 hbw2) (by omega) (may_next m k) (by rw [zz_len]; omega) (by rw [hnow, now_used, hr]; omega) (by omega)).mono ?_
    rintro e w3 ⟨rfl, hb3⟩
    have hs2 := hb2.size
    have hb23 : Below w.heap.size w w3 := hb2.trans (hb3.out.mono hs2)
    refine ⟨2, rfl, Or.inr ⟨rfl, ⟨s, F, hL.below hb23, hr, hnow, hms, hF, hb.trans (hb23.mono hb.size), hf3⟩, ?_⟩⟩
    rw [Nat.add_mul]
    omega

theorem last_K (m k : Nat) : lastL (if k = 0 then 0 else 1) (dK m k) = (k : Int) := by
  unfold lastL
  rw [dK_len]
  by_cases h : k = 0
  · subst h; rfl
  · rw [if_neg h, if_neg h]
    omega
/-- The law's end. -/
theorem FR.tail {w0 w : World} {p pd R m k : Nat} (h : FR w0 w p pd R m k) (hT : ∀ u, Below w0.heap.size w0 u → Fr.Tab u) (hw0 : 0 < w0.heap.size) (hm : m ≤ 300) (hk : k ≤ 300) :
    Calls Tryd.prog 17 #[.pointer (some ⟨p, 0, none⟩)] w fun e w4 => e = .returned (.tuple #[]) ∧ Hid (Calls Tryd.prog 18 #[.pointer (some ⟨pd, 0, none⟩), .int .i64 (-1), .int .i64 0] w4 fun e w5 => ∃ q, e = .returned (.pointer (some ⟨q, 0, none⟩)) ∧ Hid (Calls Tryd.prog 11 #[.pointer (some ⟨q, 0, none⟩)] w5 fun e w6 => ∃ r, e = .returned (.tuple #[.pointer (some ⟨r, 0, none⟩), .int .i64 0]) ∧ Hid (Calls Tryd.prog 24 #[.pointer (some ⟨p, 0, none⟩)] w6 fun e w7 => e = .returned (.int .i64 (k : Int)) ∧ Hid (Calls Tryd.prog 24 #[.pointer (some ⟨r, 0, none⟩)] w7 fun e w8 => e = .returned (.int .i64 (k : Int)) ∧ Hid (Below w0.heap.size w0 w8))))) := by
  obtain ⟨s, F, hL, hr, hnow, hms, hF, hb, hf3⟩ := h
  refine (sync_log w0.heap.size p pd s F _ (dK m k) w hL (by omega)).mono ?_
  rintro e w4 ⟨rfl, hL4, hf4⟩
  refine ⟨rfl, ?_⟩
  have hb4 : Below w0.heap.size w0 w4 := hb.trans (hf4.below hF hb.size)
  rw [hr, hnow] at hL4
  have hmass : (⟨(R : Int), nowK m k, []⟩ : St).mass ≤ 4000 := by
    simp only [St.mass, Dk.mass, wmass, nowK]
    split <;> simp <;> omega
  refine (crash_any pd _ _ (-1) 0 w4 hL4.dk (by omega)).mono ?_
  rintro e w5 ⟨q, rfl, hq, hD5, hb5⟩
  refine ⟨q, rfl, ?_⟩
  have hlf : (⟨(⟨(R : Int), nowK m k, []⟩ : St).room, Dk.leftOf ⟨(R : Int), nowK m k, []⟩ (-1) 0, []⟩ : St) = ⟨(R : Int), nowK m k, []⟩ := rfl
  rw [hlf] at hD5
  have hb5' : Below w0.heap.size w0 w5 := hb4.trans (hb5.mono hb4.size)
  have hs4 := hb4.size
  have hs5 := hb5.size
  have hnw : (⟨(R : Int), nowK m k, []⟩ : St).now = nowK m k := rfl
  have hfo : fileOf ⟨(R : Int), nowK m k, []⟩ nmW = fK m k := by
    unfold fileOf
    rw [hnw]
    unfold nowK
    split
    · rename_i h0; subst h0; rfl
    · rw [look_one]; rfl
  have hlen : (nowK m k).length ≤ 1 := by unfold nowK; split <;> simp
  refine (open_any q ⟨(R : Int), nowK m k, []⟩ _ w5 hD5 (hT w5 hb5') ?_ (by rw [hnw]; omega) (fun f hf => ?_) (by rw [hfo]; omega) (if k = 0 then 0 else 1) (dK m k) ?_).mono ?_
  · rintro (hh | hh)
    · exact hh
    · omega
  · rw [hnw] at hf
    unfold nowK at hf
    split at hf
    · simp at hf
    · rw [List.mem_singleton] at hf
      rw [hf]
      exact (show nmW.size ≤ maxLen by decide)
  · rw [hfo]
    unfold fK
    rw [load_file (dK m k) 1 (fun d hd => by rw [(List.mem_replicate.1 hd).2, zz_len]; omega) (by decide) (by rw [dK_len]; omega), dK_len]
  · rintro e w6 ⟨r, rfl, ⟨F6, hL6, _⟩, hf6⟩
    refine ⟨r, rfl, ?_⟩
    have hb6 : Below w4.heap.size w5 w6 := hf6.below (fun j hj => by
      rcases hj with hh | hh
      · exact hh.elim
      · exact hh.1) hs5
    have hb46 : Below w4.heap.size w4 w6 := hb5.trans hb6
    have hL46 := hL4.below hb46
    have h1 := hL46.last
    rw [last_K] at h1
    refine h1.mono ?_
    rintro e w7 ⟨rfl, n7, rfl⟩
    refine ⟨rfl, ?_⟩
    have h2 := (hL6.drew n7).last
    rw [last_K] at h2
    refine h2.mono ?_
    rintro e w8 ⟨rfl, n8, rfl⟩
    exact ⟨rfl, (hb4.trans (hb46.mono hs4)).trans ⟨rfl, rfl, rfl, Nat.le_refl _, fun _ _ => rfl⟩⟩
end Go.Proofs.YtnbdkojdddplkaaDoor.Wl

/- The walk of the law DiskMany. -/
import Derived.Test.YtleelemcmnlfiaaTorn
import Derived.Test.YtleelemcmnlfiaaErrs
namespace Go.Proofs.Ytleelemcmnlfiaa
open Go.RowKit

def nmI (i : Nat) : ByteArray := ⟨#[102, UInt8.ofNat (97 + i / 26), UInt8.ofNat (97 + i % 26)]⟩
theorem nm_ok : ∀ i, i < 80 → okN (nmI i) = true := by decide +kernel
theorem nm_rise : ∀ i, i < 80 → ∀ j, j < i → nlt (nmI j) (nmI i) := by decide +kernel
theorem ap_end (fs : List Fl) (n : ByteArray) (b : List UInt8) (h : ∀ x ∈ fs, nlt x.name n) : ap fs (.app n b) = fs ++ [⟨n, b⟩] := by
  have h1 : look n fs = none := by have := look_front n [] fs h; simpa [look] using this
  have h2 : del n fs = fs := by have := del_front n fs [] h; simpa [del] using this
  have h3 : ins ⟨n, b⟩ fs = fs ++ [⟨n, b⟩] := by have := ins_mid ⟨n, b⟩ fs [] h (by simp); simpa using this
  simp [ap, h1, h2, h3]
def fS (k : Nat) : St := ⟨1000, [], (List.range k).map fun j => .app (nmI j) [1]⟩
theorem fS_push (k : Nat) : (fS k).push (.app (nmI k) [1]) = fS (k + 1) := by simp [fS, St.push, List.range_succ]
theorem fS_now : ∀ k, k ≤ 80 → (fS k).now = (List.range k).map fun j => ⟨nmI j, [1]⟩
  | 0, _ => rfl
  | k + 1, h => by
    rw [← fS_push, St.push_now, fS_now k (by omega), ap_end _ _ _ (fun x hx => ?_), List.range_succ, List.map_append]
    · rfl
    · obtain ⟨j, hj, rfl⟩ := List.mem_map.1 hx
      exact nm_rise k (by omega) j (by simpa using hj)
theorem fS_look (k : Nat) (i : Nat) (h : k ≤ i) (hi : i < 80) : look (nmI i) (fS k).now = none := by
  rw [fS_now k (by omega)]
  refine List.find?_eq_none.2 fun x hx => ?_
  obtain ⟨j, hj, rfl⟩ := List.mem_map.1 hx
  have hj' : j < k := by simpa using hj
  simpa using nlt_ne (nm_rise i hi j (by omega))
theorem fS_used (k : Nat) (h : k ≤ 80) : used (fS k).now = k := by
  rw [fS_now k h]
  simp [used, Function.comp_def, List.map_const']
theorem fS_len (k : Nat) (h : k ≤ 80) : (fS k).now.length = k := by rw [fS_now k h]; simp
theorem fS_mass (k : Nat) (h : k ≤ 80) : (fS k).mass ≤ 1000 := by
  have h1 : wmass (fS k).wait = 2 * k := by
    simp [fS, wmass, Function.comp_def, Ch.mass, List.map_const']
    omega
  unfold St.mass
  rw [h1]
  simp [fS, mass]
  omega

def MR (w0 w : World) (p : Nat) (k : Nat) : Prop := (∃ F, Dk w p (fS k) F ∧ ∀ k, F k → w0.heap.size ≤ k) ∧ Below w0.heap.size w0 w
theorem MR.below {w0 w w' : World} {p k : Nat} (h : MR w0 w p k) (hb : Below w.heap.size w w') : MR w0 w' p k := by
  obtain ⟨⟨F, hD, hF⟩, hb0⟩ := h
  exact ⟨⟨F, hD.below hb, hF⟩, hb0.trans (hb.mono hb0.size)⟩

theorem MR.step {w0 w : World} {p i : Nat} (h : MR w0 w p (min i 64)) (v : Value) (hS : Sl w v [1]) (hi : i < 80) :
    Calls Try.prog 13 #[.pointer (some ⟨p, 0, none⟩), .string (nmI i), v] w fun e w3 => e = .returned (.int .i64 (if i < 64 then 0 else 2)) ∧ Hid (MR w0 w3 p (min (i + 1) 64)) := by
  obtain ⟨⟨F, hD, hF⟩, hb⟩ := h
  by_cases h64 : i < 64
  · rw [show min i 64 = i by omega] at hD
    have := fS_mass i (by omega)
    refine (append_ok p (fS i) F (nmI i) v [1] w hD hS (nm_ok i hi) ?_ (Or.inr (by rw [fS_len i (by omega)]; omega)) (by simp; omega)).mono ?_
    · rw [fS_used i (by omega)]
      show (i : Int) + 1 ≤ 1000
      omega
    · rintro e w3 ⟨rfl, hD3, hf3⟩
      rw [fS_push] at hD3
      refine ⟨by rw [if_pos h64], ⟨ext F w w3, by rw [show min (i + 1) 64 = i + 1 by omega]; exact hD3, own_of_ext hF hb.size⟩, hb.trans (hf3.below hF hb.size)⟩
  · rw [show min i 64 = 64 by omega] at hD
    have := fS_mass 64 (by omega)
    obtain ⟨ao, cap, rfl, h1, h2⟩ := hS.shape
    refine (append_many p (fS 64) F (nmI i) ao [(1 : UInt8)].length cap w hD (nm_ok i hi) ?_ (fS_look 64 i (by omega) hi) (by rw [fS_len 64 (by omega)]; omega) (by omega)).mono ?_
    · rw [fS_used 64 (by omega)]
      decide
    · rintro e w3 ⟨rfl, hb3⟩
      refine ⟨by rw [if_neg h64], ?_⟩
      rw [show min (i + 1) 64 = 64 by omega]
      exact MR.below ⟨⟨F, hD, hF⟩, hb⟩ hb3

theorem MR.last {w0 w : World} {p k : Nat} (h : MR w0 w p k) (hk : k ≤ 64) : Calls Try.prog 26 #[.pointer (some ⟨p, 0, none⟩)] w fun e w' => ∃ ao cap, e = .returned (.slice ao k cap) ∧ Below w0.heap.size w0 w' := by
  obtain ⟨⟨F, hD, hF⟩, hb⟩ := h
  have := fS_mass k (by omega)
  refine (names_any p (fS k) F w hD (by omega)).mono ?_
  rintro e w' ⟨v, rfl, hO, hb'⟩
  rw [fS_len k (by omega)] at hO
  refine (?_ : ∃ ao cap, v = .slice ao k cap) |>.elim fun ao h => h.elim fun cap h => ⟨ao, cap, by rw [h], hb.trans (hb'.mono hb.size)⟩
  rcases own_shape hO with ⟨rfl, e⟩ | ⟨g, cap, rfl, _⟩
  · exact ⟨none, 0, by rw [e]⟩
  · exact ⟨_, _, rfl⟩

set_option maxHeartbeats 4000000 in
set_option maxRecDepth 20000 in
theorem diskMany_any (n : Int) (w : World) :
    Calls Try.prog 4 #[.int .i64 n] w fun e w' => e = .returned (.bool true) ∧ Below w.heap.size w w' := by
  have HB : Hid (_) := begun_any w
  by_cases hn : n < 0 ∨ 80 < n
  · have hn1 : decide (n < 0) = false → 80 < n := by
      intro h
      have := of_decide_eq_false h
      omega
    go_enter Try.func4, Try.ntmps4
    go_wp2_with (go_at_call 8; refine Calls.mono HB.out ?_; rintro e w1 ⟨rfl, hb1⟩)
    all_goals go_ret
    all_goals exact ⟨rfl, hb1⟩
  · obtain ⟨m, rfl⟩ : ∃ m : Nat, n = (m : Int) := ⟨n.toNat, by omega⟩
    have hm : m ≤ 80 := by omega
    have hm0 : ¬ (m : Int) < 0 := by omega
    have hm80 : ¬ (80 : Int) < (m : Int) := by omega
    clear hn
    go_enter Try.func4, Try.ntmps4
    go_wp2_with (go_at_call 8; refine Calls.mono HB.out ?_; rintro e w1 ⟨rfl, hb1⟩)
    refine (new_any 1000 w1).mono ?_
    rintro e w2 ⟨rfl, hD2, hb2⟩
    have H2 : Hid (MR w w2 w1.heap.size (min 0 64)) := ⟨⟨_, hD2, own_of_ext (fun _ h => h.elim) hb1.size⟩, hb1.trans (hb2.mono hb1.size)⟩
    generalize w1.heap.size = p at *
    clear hD2 hb2 hb1 HB
    go_wp2_with fail
    go_loopw [5] (fun vi wr => ∃ i : Nat, i ≤ m ∧ vi = .int .i64 i ∧ Hid (MR w wr p (min i 64))) (fun vi _ => 80 - (intOf vi).toNat)
    case atStart => exact ⟨0, by omega, rfl, H2.out⟩
    case round =>
      clear H2
      obtain ⟨i, him, rfl, HK⟩ := hrel
      by_cases hlt : i < m
      · have hlt' : (i : Int) < (m : Int) := by omega
        have hi80 : i < 80 := by omega
        have hC : (#[Value.int .u8 (97 + (i : Int) / 26), Value.int .u8 (97 + (i : Int) % 26)] : Array Value).toList = cells8 [UInt8.ofNat (97 + i / 26), UInt8.ofNat (97 + i % 26)] := by
          have h1 : (UInt8.ofNat (97 + i / 26)).toNat = 97 + i / 26 := by simp [UInt8.toNat_ofNat']; omega
          have h2 : (UInt8.ofNat (97 + i % 26)).toNat = 97 + i % 26 := by simp [UInt8.toNat_ofNat']; omega
          simp only [cells8, List.map_cons, List.map_nil, h1, h2]
          simp
        have hS := sl_new wr #[Value.int .u8 (97 + (i : Int) / 26), Value.int .u8 (97 + (i : Int) % 26)] [UInt8.ofNat (97 + i / 26), UInt8.ofNat (97 + i % 26)] 5 (0, 0) hC (by simp)
        have hcv := str_of_sl (P := Try.prog) hS 32 5 9 Try.underlying32 Try.underlying5 Try.underlying9
        have hcv' : (convert 32 9 (.slice (some ⟨wr.heap.size, 0, none⟩) 2 2)).run Try.prog (wr.alloc (.cells #[Value.int .u8 (97 + (i : Int) / 26), Value.int .u8 (97 + (i : Int) % 26)] 5)) = .ok (.string ⟨#[UInt8.ofNat (97 + i / 26), UInt8.ofNat (97 + i % 26)]⟩) _ := hcv
        have hnm : ({ data := #[102] } : ByteArray) ++ { data := #[97 + UInt8.ofNat (i / 26), 97 + UInt8.ofNat (i % 26)] } = nmI i := by
          apply ByteArray.ext
          simp [nmI]
        have hba : Below wr.heap.size wr ((wr.alloc (.cells #[Value.int .u8 (97 + (i : Int) / 26), Value.int .u8 (97 + (i : Int) % 26)] 5)).alloc (.cells #[Value.int .u8 1] 5)) := ((Below.refl _ _).alloc (Nat.le_refl _) _).alloc (by simp) _
        have hS1 := sl_new (wr.alloc (.cells #[Value.int .u8 (97 + (i : Int) / 26), Value.int .u8 (97 + (i : Int) % 26)] 5)) #[Value.int .u8 1] [1] 5 (0, 0) rfl (by simp)
        have hsz : (wr.alloc (.cells #[Value.int .u8 (97 + (i : Int) / 26), Value.int .u8 (97 + (i : Int) % 26)] 5)).heap.size = wr.heap.size + 1 := by simp
        rw [hsz] at hS1
        have HA : Hid (Calls Try.prog 13 #[.pointer (some ⟨p, 0, none⟩), .string (nmI i), .slice (some ⟨wr.heap.size + 1, 0, none⟩) 1 1] ((wr.alloc (.cells #[Value.int .u8 (97 + (i : Int) / 26), Value.int .u8 (97 + (i : Int) % 26)] 5)).alloc (.cells #[Value.int .u8 1] 5)) fun e w3 => e = .returned (.int .i64 (if i < 64 then 0 else 2)) ∧ Hid (MR w w3 p (min (i + 1) 64))) := (HK.out.below hba).step _ hS1 hi80
        clear hsz
        clear hcv hS hC hba hS1 HK
        go_wp2_with fail
        clear hcv'
        refine Calls.mono HA.out ?_
        clear hnm HA
        rintro e w3 ⟨rfl, H3⟩
        by_cases h64 : i < 64
        · rw [if_pos h64]
          have h64' : (i : Int) < 64 := by omega
          go_wp2
          go_roundw
          case rel => exact ⟨i + 1, by omega, by go_num, H3⟩
          case measure => simp [intOf]; omega
        · rw [if_neg h64]
          have h64' : ¬ (i : Int) < 64 := by omega
          go_wp2
          go_roundw
          case rel => exact ⟨i + 1, by omega, by go_num, H3⟩
          case measure => simp [intOf]; omega
      · have hlt' : ¬ (i : Int) < (m : Int) := by omega
        have hmi : m = i := by omega
        subst hmi
        have HE : Hid (_) := HK.out.last (by omega)
        have hmn : ∀ w' : World, (Builtin.min_ #[3, 3] 3 #[.int .i64 (m : Int), .int .i64 64]).run Try.prog w' = .ok (.int .i64 ((min m 64 : Nat) : Int)) w' := fun w' => by
          rw [run_min_int2]
          congr 2
          split <;> omega
        generalize min m 64 = k at *
        clear HK
        go_wp2_with (go_at_call 26; refine Calls.mono HE.out ?_; rintro e w9 ⟨ao9, cap9, rfl, hb9⟩)
        go_ret
        exact ⟨by simp, hb9⟩
end Go.Proofs.Ytleelemcmnlfiaa

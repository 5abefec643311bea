/- A log's own file is read as the log; Append on a disk without room. -/
import Derived.Test.YtnbdkojdddplkaaDoorWlBegun
namespace Go.Proofs.YtnbdkojdddplkaaDoor.Wl
open Go.RowKit Dk

/-- What a log's seals hold. -/
def bodies (n : Int) : List (List UInt8) → List (List UInt8)
  | [] => []
  | b :: r => (Bn.enc n ++ (Bn.enc (b.length : Int) ++ b)) :: bodies (n + 1) r
theorem scan_file : ∀ (ds : List (List UInt8)) (n : Int), (∀ d ∈ ds, d.length ≤ 32768) → (Fr.scanL (fileB n ds)).1 = bodies n ds
  | [], n, _ => by rw [fileB, Fr.scan_nil]; rfl
  | d :: ds, n, h => by
    have hd := h d List.mem_cons_self
    have e1 := enc_le n
    have e2 := enc_le (d.length : Int)
    have h1 := Fr.first_seal (Bn.enc n ++ (Bn.enc (d.length : Int) ++ d)) (fileB (n + 1) ds) (by simp only [List.length_append]; omega)
    have hf : fileB n (d :: ds) = Fr.sealL (Bn.enc n ++ (Bn.enc (d.length : Int) ++ d)) ++ fileB (n + 1) ds := rfl
    rw [hf, Fr.scan_some h1, ← Fr.seal_len, List.drop_left, bodies, scan_file ds (n + 1) (fun x hx => h x (List.mem_cons_of_mem _ hx))]
theorem load_more : ∀ (ds : List (List UInt8)) (n f : Int) (acc : List (List UInt8)), (∀ d ∈ ds, d.length ≤ 32768) → 1 ≤ f → acc ≠ [] → n = f + acc.length → n + ds.length ≤ 9223372036854775808 → loadR (bodies n ds) f acc = (f, acc ++ ds)
  | [], n, f, acc, _, _, _, _, _ => by rw [bodies, loadR, List.append_nil]
  | d :: ds, n, f, acc, h, hf, ha, hn, hb => by
    have hal : acc.length ≠ 0 := fun e => ha (List.eq_nil_of_length_eq_zero e)
    rw [List.length_cons] at hb
    rw [bodies, loadR, unseal_rec n d (by omega) (by omega) (h d List.mem_cons_self)]
    have hm : mayL f acc n = true := by
      unfold mayL
      rw [if_neg hal]
      simp only [Bool.and_eq_true, decide_eq_true_eq, Bool.or_eq_true]
      exact ⟨by omega, Or.inr (by omega)⟩
    simp only [hm, if_true, if_neg hal]
    rw [load_more ds (n + 1) f (acc ++ [d]) (fun x hx => h x (List.mem_cons_of_mem _ hx)) hf (by simp) (by rw [List.length_append]; simp; omega) (by omega), List.append_assoc]
    rfl
theorem load_file (ds : List (List UInt8)) (n : Int) (h : ∀ d ∈ ds, d.length ≤ 32768) (h1 : 1 ≤ n) (hb : n + ds.length ≤ 9223372036854775808) : loadR (Fr.scanL (fileB n ds)).1 0 [] = (if ds.length = 0 then 0 else n, ds) := by
  rw [scan_file ds n h]
  cases ds with
  | nil => rfl
  | cons d ds =>
    rw [List.length_cons] at hb
    rw [bodies, loadR, unseal_rec n d (by omega) (by omega) (h d List.mem_cons_self)]
    have hm : mayL 0 [] n = true := by simp [mayL]; exact h1
    simp only [hm, if_true, List.length_nil]
    have := load_more ds (n + 1) n ([] ++ [d]) (fun x hx => h x (List.mem_cons_of_mem _ hx)) h1 (by simp) (by simp) (by omega)
    rw [this]
    simp

set_option maxHeartbeats 2000000 in
theorem app_full (B p pd : Nat) (s : St) (F : Nat → Prop) (first : Int) (ds : List (List UInt8)) (n : Int) (bv : Value) (b : List UInt8) (w : World) (h : LW w B p pd s F first ds) (hS : Sl w bv b) (ht : Fr.Tab w) (hn : n ≤ 9223372036854775807) (hm : mayL first ds n = true) (hl : b.length ≤ 32768)
    (hr : s.room < (used s.now : Int) + (recB n b).length) (hms : s.mass + 40000 ≤ 1000000000) :
    Calls Tryd.prog 14 #[.pointer (some ⟨p, 0, none⟩), .int .i64 n, bv] w fun e w' => e = .returned (.int .i64 2) ∧ Hid (Below w.heap.size w w') := by
  obtain ⟨aob, capb, rfl, _, _⟩ := hS.shape
  have HM : Hid (_) := h.may n hn
  rw [hm] at HM
  have m1 : 1 ≤ n := by
    unfold mayL at hm
    simp only [Bool.and_eq_true, decide_eq_true_eq] at hm
    exact hm.1
  have hrs := recB_size n b ⟨by omega, hn⟩ hl
  obtain ⟨X, HX⟩ : ∃ X, Hid (X = recB n b) := ⟨recB n b, (rfl : _ = recB n b)⟩
  rw [← HX.out] at hr hrs
  have HC : Hid (∀ m, Calls Tryd.prog 32 #[.int .i64 n, .slice aob b.length capb] (w.drewN m) fun e w2 => ∃ ao cap, e = .returned (.slice ao X.length cap) ∧ w2.cell? ⟨p, 0, none⟩ = some (.pointer (some ⟨pd, 0, none⟩)) ∧ Hid (Calls Tryd.prog 20 #[.pointer (some ⟨pd, 0, none⟩), .string nmW, .slice ao X.length cap] w2 fun e w3 => e = .returned (.int .i64 2) ∧ Hid (Below w.heap.size w w3))) := by
    intro m
    have hb1 : Below w.heap.size w (w.drewN m) := ⟨rfl, rfl, rfl, Nat.le_refl _, fun _ _ => rfl⟩
    refine (seal_any n (.slice aob b.length capb) b (w.drewN m) (hS.below hb1) (ht.drew m) ⟨by omega, hn⟩ hl).mono ?_
    rintro e w2 ⟨ao, L, cap, rfl, hO, hb2⟩
    have hb2' : Below w.heap.size w w2 := hb1.trans hb2
    have hSX := Sl.of_own hO
    obtain ⟨ao', cap', e2, _, _⟩ := hSX.shape
    simp only [Value.slice.injEq] at e2
    obtain ⟨rfl, rfl, rfl⟩ := e2
    rw [← HX.out]
    have hW2 := h.below hb2'
    refine ⟨ao, cap, rfl, hW2.cell0, ?_⟩
    refine (append_room pd s F nmW ao X.length cap w2 hW2.dk (by decide) hr (by omega) (by omega)).mono ?_
    rintro e w3 ⟨rfl, hb3⟩
    exact ⟨rfl, hb2'.trans (hb3.mono hb2'.size)⟩
  clear h hS ht hn hm hr hms m1 hrs
  have hl' : ¬ (32768 : Int) < (b.length : Int) := by omega
  simp only [nmW] at HC
  go_enter Tryd.func14, Tryd.ntmps14
  go_wp2_with (first
    | (go_at_call 31; refine Calls.mono HM.out ?_; rintro e w1 ⟨rfl, m, rfl⟩; have HC1 : Hid (_) := HC.out m; clear HC)
    | (go_at_call 32; refine Calls.mono HC1.out ?_; rintro e w2 ⟨ao2, cap2, rfl, c2, HC2⟩; clear HC1)
    | (go_at_call 20; refine Calls.mono HC2.out ?_; rintro e w3 ⟨rfl, HC3⟩; clear HC2))
  go_ret
  exact ⟨rfl, HC3.out⟩
end Go.Proofs.YtnbdkojdddplkaaDoor.Wl

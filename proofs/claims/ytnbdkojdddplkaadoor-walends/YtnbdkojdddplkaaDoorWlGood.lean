/- A log whose disk holds its file and nothing else, and what each call makes of it. -/
import Derived.Test.YtnbdkojdddplkaaDoorWlUntil
import Derived.Test.YtnbdkojdddplkaaDoorWlForge
namespace Go.Proofs.YtnbdkojdddplkaaDoor.Wl
open Go.RowKit Dk

/-- The files are the log's own alone. -/
def nowF (fs : List Fl) (first : Int) (ds : List (List UInt8)) : Prop := (fs = [] ∧ ds = []) ∨ fs = [⟨nmW, fileB first ds⟩]
theorem nowF.len {fs : List Fl} {first : Int} {ds : List (List UInt8)} (h : nowF fs first ds) : fs.length ≤ 1 := by
  rcases h with ⟨rfl, _⟩ | rfl <;> simp
theorem nowF.used {fs : List Fl} {first : Int} {ds : List (List UInt8)} (h : nowF fs first ds) : Dk.used fs = (fileB first ds).length := by
  rcases h with ⟨rfl, rfl⟩ | rfl <;> simp [Dk.used, fileB]
theorem nowF.mass {fs : List Fl} {first : Int} {ds : List (List UInt8)} (h : nowF fs first ds) : Dk.mass fs ≤ (fileB first ds).length + 1 := by
  rcases h with ⟨rfl, rfl⟩ | rfl <;> simp [Dk.mass]
theorem nowF.nm {fs : List Fl} {first : Int} {ds : List (List UInt8)} (h : nowF fs first ds) : Nm fs := by
  intro f hf
  rcases h with ⟨rfl, rfl⟩ | rfl
  · simp at hf
  · rw [List.mem_singleton] at hf
    rw [hf]
    exact nmW_size
theorem nowF.look {fs : List Fl} {first : Int} {ds : List (List UInt8)} (h : nowF fs first ds) (hd : ds ≠ []) : Dk.look nmW fs = some ⟨nmW, fileB first ds⟩ := by
  rcases h with ⟨_, e⟩ | rfl
  · exact absurd e hd
  · exact look_one _
theorem nowF.file {fs : List Fl} {first : Int} {ds : List (List UInt8)} (h : nowF fs first ds) : ((Dk.look nmW fs).map Fl.bs).getD [] = fileB first ds := by
  rcases h with ⟨rfl, rfl⟩ | rfl
  · rfl
  · rw [look_one]; rfl
theorem nowF.app {fs : List Fl} {first : Int} {ds : List (List UInt8)} (h : nowF fs first ds) (n : Int) (b : List UInt8) (hm : mayL first ds n = true) : nowF (Dk.ap fs (.app nmW (recB n b))) (if ds.length = 0 then n else first) (ds ++ [b]) := by
  right
  obtain ⟨m1, m2⟩ : 1 ≤ n ∧ (ds.length = 0 ∨ n - 1 = (if ds.length = 0 then 0 else first + ds.length - 1)) := by simpa [mayL] using hm
  have hf : fileB first ds ++ recB n b = fileB (if ds.length = 0 then n else first) (ds ++ [b]) := by
    by_cases hz : ds.length = 0
    · rw [List.eq_nil_of_length_eq_zero hz]
      simp [fileB]
    · rw [if_neg hz, fileB_append]
      rw [if_neg hz] at m2
      have : n = first + ds.length := by
        rcases m2 with m2 | m2
        · exact absurd m2 hz
        · omega
      rw [this]
      simp [fileB]
  rcases h with ⟨rfl, rfl⟩ | rfl
  · rw [← hf]
    simp [ap, Dk.look, Dk.del, Dk.ins, fileB]
  · rw [← hf]
    simp [ap, Dk.look, Dk.del, Dk.ins]
theorem fileB_front (first : Int) (ds : List (List UInt8)) (k : Nat) (hk : k ≤ ds.length) : (fileB first ds).take (fileB first (ds.take k)).length = fileB first (ds.take k) := by
  rw [fileB_split first ds k hk, List.take_left]
theorem fileB_nil (a : Int) : fileB a [] = [] := rfl
theorem nowF.cut {fs : List Fl} {first : Int} {ds : List (List UInt8)} (h : nowF fs first ds) (k : Nat) (hk : k < ds.length) : nowF (Dk.ap fs (.cut nmW (fileB first (ds.take k)).length)) (if k = 0 then 0 else first) (ds.take k) := by
  right
  have hb : fileB (if k = 0 then 0 else first) (ds.take k) = fileB first (ds.take k) := by
    by_cases hz : k = 0
    · rw [hz]; rfl
    · rw [if_neg hz]
  rcases h with ⟨rfl, rfl⟩ | rfl
  · simp at hk
  · rw [hb]
    simp [ap, Dk.look, Dk.del, Dk.ins, fileB_front first ds k (by omega)]
theorem nowF.cut0 {fs : List Fl} {first : Int} {ds : List (List UInt8)} (h : nowF fs first ds) (hd : ds ≠ []) : nowF (Dk.ap fs (.cut nmW 0)) 0 [] := by
  right
  rcases h with ⟨rfl, rfl⟩ | rfl
  · simp at hd
  · simp [ap, Dk.look, Dk.del, Dk.ins, fileB]
theorem nmC_ne : nmC ≠ nmW := by decide
theorem nmW_ne : nmW ≠ nmC := by decide
theorem nlt_CW : Dk.nlt nmC nmW = False := by
  apply eq_false
  decide
/-- The copy beside the file. -/
theorem ap_copy (X Y : List UInt8) : Dk.ap [⟨nmW, X⟩] (.app nmC Y) = [⟨nmW, X⟩, ⟨nmC, Y⟩] := by
  simp [ap, Dk.look, Dk.del, Dk.ins, nmW_ne, nlt_CW]
theorem ap_move (X Y : List UInt8) : Dk.ap [⟨nmW, X⟩, ⟨nmC, Y⟩] (.mov nmC nmW) = [⟨nmW, Y⟩] := by
  simp [ap, Dk.look, Dk.del, Dk.ins, nmW_ne, nmC_ne]

theorem fileB_small : ∀ (ds : List (List UInt8)) (n : Int) (m : Nat), (∀ d ∈ ds, d.length ≤ m) → m ≤ 32768 → 0 ≤ n → n + ds.length ≤ 9223372036854775807 → (fileB n ds).length ≤ ds.length * (m + 28)
  | [], n, m, _, _, _, _ => by simp [fileB]
  | d :: ds, n, m, h, hm, h0, hb => by
    rw [List.length_cons] at hb
    have h1 := fileB_small ds (n + 1) m (fun x hx => h x (List.mem_cons_of_mem _ hx)) hm (by omega) (by omega)
    have hd := h d List.mem_cons_self
    have h2 := recB_size n d ⟨by omega, by omega⟩ (by omega)
    rw [fileB, List.length_append, List.length_cons, Nat.add_mul]
    omega

/-- A log that is open, all its memory and its disk's from w0 on. -/
def GD (w0 w : World) (p pd : Nat) (s : St) (first : Int) (ds : List (List UInt8)) : Prop := ∃ F, LW w w0.heap.size p pd s F first ds ∧ (∀ j, F j → w0.heap.size ≤ j) ∧ Below w0.heap.size w0 w
/-- What is asked of it besides. -/
structure Gs (s : St) (first : Int) (ds : List (List UInt8)) (N M : Nat) : Prop where
  room : s.room = 1048576
  now : nowF s.now first ds
  mass : s.mass ≤ M
  small : ∀ d ∈ ds, d.length ≤ 300
  len : ds.length ≤ N
  fit : 0 ≤ first ∧ first + ds.length ≤ 4611686018427387904
theorem Gs.file {s : St} {first : Int} {ds : List (List UInt8)} {N M : Nat} (h : Gs s first ds N M) : (fileB first ds).length ≤ ds.length * 328 := fileB_small ds first 300 h.small (by omega) h.fit.1 (by have := h.fit; omega)

theorem GD.below {w0 w w' : World} {p pd : Nat} {s : St} {first : Int} {ds : List (List UInt8)} (h : GD w0 w p pd s first ds) (hb : Below w.heap.size w w') : GD w0 w' p pd s first ds := by
  obtain ⟨F, h1, h2, h3⟩ := h
  exact ⟨F, h1.below hb, h2, h3.trans (hb.mono h3.size)⟩
theorem GD.next {w0 w w' : World} {p pd : Nat} {s' : St} {first' : Int} {ds' : List (List UInt8)} {F : Nat → Prop} (hF : ∀ j, F j → w0.heap.size ≤ j) (hb : Below w0.heap.size w0 w)
    (h : ∃ F', LW w' w0.heap.size p pd s' F' first' ds' ∧ (∀ k, F' k → F k ∨ w.heap.size ≤ k) ∧ Dk.Fr (fun k => F k ∨ w0.heap.size ≤ k) w w') : GD w0 w' p pd s' first' ds' := by
  obtain ⟨F', h1, h2, h3⟩ := h
  have hs := hb.size
  refine ⟨F', h1, fun j hj => ?_, hb.trans (h3.below (fun j hj => ?_) hs)⟩
  · rcases h2 j hj with hh | hh
    · exact hF j hh
    · omega
  · rcases hj with hh | hh
    · exact hF j hh
    · exact hh

/-- Append. -/
theorem GD.app {w0 w w2 : World} {p pd : Nat} {s : St} {first : Int} {ds : List (List UInt8)} {N M : Nat} (h : GD w0 w p pd s first ds) (hG : Gs s first ds N M) (hT : ∀ u, Below w0.heap.size w0 u → Fr.Tab u) (hN : N ≤ 80) (hM : M ≤ 100000) (n : Int) (bv : Value) (b : List UInt8) (hb : Below w.heap.size w w2) (hS : Sl w2 bv b) (haw : ∀ a m c, bv = .slice (some a) m c → a.block < w0.heap.size ∨ w.heap.size ≤ a.block)
    (hm : mayL first ds n = true) (hn : n ≤ 4611686018427387904) (hl : b.length ≤ 300) :
    Calls Tryd.prog 14 #[.pointer (some ⟨p, 0, none⟩), .int .i64 n, bv] w2 fun e w' => e = .returned (.int .i64 0) ∧ Hid (GD w0 w' p pd (s.push (.app nmW (recB n b))) (if ds.length = 0 then n else first) (ds ++ [b])) := by
  obtain ⟨F, hL, hF, hbw⟩ := h
  have hb2 : Below w0.heap.size w0 w2 := hbw.trans (hb.mono hbw.size)
  have hlt := hL.dk.lt
  have hfl := hG.file
  have hdl := hG.len
  have hms := hG.mass
  have m1 : 1 ≤ n := by
    unfold mayL at hm
    simp only [Bool.and_eq_true, decide_eq_true_eq] at hm
    exact hm.1
  have hrs := recB_size n b ⟨by omega, by omega⟩ (by omega)
  have hu := hG.now.used
  have hnl := hG.now.len
  refine (app_ok w0.heap.size p pd s F first ds n bv b w2 (hL.below hb) ⟨hS, fun a m c e hFa => ?_⟩ (hT w2 hb2) (by omega) hm (by omega) (by rw [hu, hG.room]; omega) (Or.inr (by omega)) (by omega) (by omega) (by omega)).mono ?_
  · rcases haw a m c e with hh | hh
    · have := hF _ hFa; omega
    · have := hlt _ hFa; omega
  · rintro e w' ⟨rfl, hX⟩
    refine ⟨rfl, GD.next (w := w2) hF hb2 ?_⟩
    exact hX
theorem Gs.app {s : St} {first : Int} {ds : List (List UInt8)} {N M : Nat} (h : Gs s first ds N M) (n : Int) (b : List UInt8) (hm : mayL first ds n = true) (hn : n ≤ 4611686018427387000) (hl : b.length ≤ 300) : Gs (s.push (.app nmW (recB n b))) (if ds.length = 0 then n else first) (ds ++ [b]) (N + 1) (M + 330) := by
  obtain ⟨m1, m2⟩ : 1 ≤ n ∧ (ds.length = 0 ∨ n - 1 = (if ds.length = 0 then 0 else first + ds.length - 1)) := by simpa [mayL] using hm
  have hrs := recB_size n b ⟨by omega, by omega⟩ (by omega)
  have h1 := h.mass
  have h2 := h.len
  have h3 := h.fit
  refine ⟨h.room, by rw [St.push_now]; exact h.now.app n b hm, by rw [St.push_mass]; simp only [Ch.mass]; omega, fun d hd => ?_, by rw [List.length_append, List.length_singleton]; omega, ?_⟩
  · rcases List.mem_append.1 hd with hd | hd
    · exact h.small d hd
    · rw [List.mem_singleton] at hd
      rw [hd]
      exact hl
  · rw [List.length_append, List.length_singleton]
    split
    · rename_i hz
      rw [hz]
      exact ⟨by omega, by omega⟩
    · rename_i hz
      rw [if_neg hz] at m2
      rcases m2 with m2 | m2
      · exact absurd m2 hz
      · exact ⟨h3.1, by omega⟩

/-- What From makes of the disk. -/
def fromS (s : St) (first : Int) (ds : List (List UInt8)) (k : Nat) : St := if k = ds.length then s else s.push (.cut nmW (fileB first (ds.take k)).length)
theorem cnt_le (first : Int) (ds : List (List UInt8)) (n : Int) (h0 : 0 ≤ n) : cnt first ds n ≤ ds.length := by
  unfold cnt
  by_cases h : lastL first ds ≤ n
  · rw [if_pos h]
    exact Nat.le_refl _
  · rw [if_neg h]
    unfold lastL at h
    by_cases hz : ds.length = 0
    · rw [if_pos hz] at h
      rw [hz]
      omega
    · rw [if_neg hz] at h
      omega
theorem GD.from {w0 w : World} {p pd : Nat} {s : St} {first : Int} {ds : List (List UInt8)} {N M : Nat} (h : GD w0 w p pd s first ds) (hG : Gs s first ds N M) (hN : N ≤ 80) (hM : M ≤ 100000) (n : Int) (k : Nat) (h1 : 1 ≤ n) (hn : n ≤ 9223372036854775807) (hk : cnt first ds (n - 1) = k) :
    Calls Tryd.prog 15 #[.pointer (some ⟨p, 0, none⟩), .int .i64 n] w fun e w' => e = .returned (.int .i64 0) ∧ Hid (GD w0 w' p pd (fromS s first ds k) (if k = 0 then 0 else first) (ds.take k)) := by
  obtain ⟨F, hL, hF, hbw⟩ := h
  have hkl := cnt_le first ds (n - 1) (by omega)
  have hdl := hG.len
  have hms := hG.mass
  rw [hk] at hkl
  by_cases he : k = ds.length
  · refine (from_same _ p pd s F first ds n w hL h1 hn (by rw [hk, he])).mono ?_
    rintro e w' ⟨rfl, m, rfl⟩
    refine ⟨rfl, F, ?_, hF, hbw.trans ⟨rfl, rfl, rfl, Nat.le_refl _, fun _ _ => rfl⟩⟩
    have hz := hL.fit.2.2
    have hf : (if k = 0 then 0 else first) = first := by
      split
      · exact (hz (List.eq_nil_of_length_eq_zero (by omega))).symm
      · rfl
    rw [hf, List.take_of_length_le (by omega), fromS, if_pos he]
    exact hL.drew m
  · have hne : ds ≠ [] := fun e => by rw [e] at hkl he; simp at hkl he; omega
    refine (from_ok _ p pd s F first ds n k ⟨nmW, fileB first ds⟩ w hL h1 hn hk (by omega) (by omega) (hG.now.look hne) rfl (by omega)).mono ?_
    rintro e w' ⟨rfl, hX⟩
    refine ⟨rfl, GD.next hF hbw ?_⟩
    rw [fromS, if_neg he]
    exact hX
theorem Gs.from {s : St} {first : Int} {ds : List (List UInt8)} {N M : Nat} (h : Gs s first ds N M) (k : Nat) (hk : k ≤ ds.length) (hz : ds = [] → first = 0) : Gs (fromS s first ds k) (if k = 0 then 0 else first) (ds.take k) N (M + 1) := by
  have h1 := h.mass
  have h2 := h.len
  have h3 := h.fit
  have hlen : (ds.take k).length ≤ N := by rw [List.length_take]; omega
  have hsm : ∀ d ∈ ds.take k, d.length ≤ 300 := fun d hd => h.small d (List.mem_of_mem_take hd)
  have hfit : 0 ≤ (if k = 0 then 0 else first) ∧ (if k = 0 then 0 else first) + (ds.take k).length ≤ 4611686018427387904 := by
    rw [List.length_take]
    split <;> constructor <;> omega
  unfold fromS
  by_cases he : k = ds.length
  · rw [if_pos he]
    have hf : (if k = 0 then 0 else first) = first := by
      split
      · exact (hz (List.eq_nil_of_length_eq_zero (by omega))).symm
      · rfl
    rw [hf] at hfit ⊢
    exact ⟨h.room, by rw [List.take_of_length_le (by omega)]; exact h.now, by omega, hsm, hlen, hfit⟩
  · rw [if_neg he]
    exact ⟨h.room, by rw [St.push_now]; exact h.now.cut k (by omega), by rw [St.push_mass]; simp only [Ch.mass]; omega, hsm, hlen, hfit⟩

/-- What Until makes of the disk. -/
def untilS (s : St) (first : Int) (ds : List (List UInt8)) (k : Nat) : St := if k = 0 then s else if k = ds.length then s.push (.cut nmW 0) else (s.push (.app nmC (fileB (first + k) (ds.drop k)))).push (.mov nmC nmW)
theorem GD.until {w0 w : World} {p pd : Nat} {s : St} {first : Int} {ds : List (List UInt8)} {N M : Nat} (h : GD w0 w p pd s first ds) (hG : Gs s first ds N M) (hT : ∀ u, Below w0.heap.size w0 u → Fr.Tab u) (hN : N ≤ 80) (hM : M ≤ 100000) (n : Int) (k : Nat) (h1 : 1 ≤ n) (hn : n ≤ 9223372036854775806) (hk : cnt first ds n = k) :
    Calls Tryd.prog 16 #[.pointer (some ⟨p, 0, none⟩), .int .i64 n] w fun e w' => e = .returned (.int .i64 0) ∧ Hid (GD w0 w' p pd (untilS s first ds k) (if k = ds.length then 0 else first + k) (ds.drop k)) := by
  obtain ⟨F, hL, hF, hbw⟩ := h
  have hkl := cnt_le first ds n (by omega)
  have hdl := hG.len
  have hms := hG.mass
  have hfl := hG.file
  have hfi := hG.fit
  rw [hk] at hkl
  by_cases h0 : k = 0
  · refine (until_same _ p pd s F first ds n w hL h1 hn (by rw [hk, h0])).mono ?_
    rintro e w' ⟨rfl, m, rfl⟩
    refine ⟨rfl, F, ?_, hF, hbw.trans ⟨rfl, rfl, rfl, Nat.le_refl _, fun _ _ => rfl⟩⟩
    have hz := hL.fit.2.2
    have hf : (if k = ds.length then 0 else first + k) = first := by
      split
      · exact (hz (List.eq_nil_of_length_eq_zero (by omega))).symm
      · rw [h0]; simp
    rw [hf, h0, List.drop_zero, untilS, if_pos rfl]
    exact hL.drew m
  · by_cases he : k = ds.length
    · have hne : ds ≠ [] := fun e => by rw [e] at he; simp at he; omega
      refine (until_all _ p pd s F first ds n ⟨nmW, fileB first ds⟩ w hL h1 hn (by rw [hk, he]) (by omega) (by omega) (by omega) (by omega) (hG.now.look hne) (by omega)).mono ?_
      rintro e w' ⟨rfl, hX⟩
      refine ⟨rfl, GD.next hF hbw ?_⟩
      rw [untilS, if_neg h0, if_pos he, if_pos he, List.drop_of_length_le (by omega)]
      exact hX
    · have hsp := congrArg List.length (fileB_split first ds k hkl)
      rw [List.length_append] at hsp
      have hnl := hG.now.len
      have hu := hG.now.used
      refine (until_some _ p pd s F first ds n k w hL (hT w hbw) h1 hn hk (by omega) (by omega) (by omega) (fun d hd => by have := hG.small d hd; omega) (by omega) (by omega) (by rw [hu, hG.room]; omega) (Or.inr (by omega)) (by omega)).mono ?_
      rintro e w' ⟨rfl, hX⟩
      refine ⟨rfl, GD.next hF hbw ?_⟩
      rw [untilS, if_neg h0, if_neg he, if_neg he]
      exact hX
theorem Gs.until {s : St} {first : Int} {ds : List (List UInt8)} {N M : Nat} (h : Gs s first ds N M) (k : Nat) (hk : k ≤ ds.length) (hz : ds = [] → first = 0) : Gs (untilS s first ds k) (if k = ds.length then 0 else first + k) (ds.drop k) N (M + (N * 328 + 3)) := by
  have h1 := h.mass
  have h2 := h.len
  have h3 := h.fit
  have hlen : (ds.drop k).length ≤ N := by rw [List.length_drop]; omega
  have hsm : ∀ d ∈ ds.drop k, d.length ≤ 300 := fun d hd => h.small d (List.mem_of_mem_drop hd)
  have hfit : 0 ≤ (if k = ds.length then 0 else first + k) ∧ (if k = ds.length then 0 else first + k) + (ds.drop k).length ≤ 4611686018427387904 := by
    rw [List.length_drop]
    split <;> constructor <;> omega
  unfold untilS
  by_cases h0 : k = 0
  · rw [if_pos h0]
    have hf : (if k = ds.length then 0 else first + k) = first := by
      split
      · exact (hz (List.eq_nil_of_length_eq_zero (by omega))).symm
      · rw [h0]; simp
    rw [hf] at hfit ⊢
    exact ⟨h.room, by rw [h0, List.drop_zero]; exact h.now, by omega, hsm, hlen, hfit⟩
  · rw [if_neg h0]
    have hne : ds ≠ [] := fun e => by rw [e] at hk; simp at hk; omega
    by_cases he : k = ds.length
    · rw [if_pos he, if_pos he]
      rw [if_pos he] at hfit
      refine ⟨h.room, ?_, by rw [St.push_mass]; simp only [Ch.mass]; omega, hsm, hlen, hfit⟩
      rw [St.push_now, List.drop_of_length_le (by omega)]
      exact h.now.cut0 hne
    · rw [if_neg he, if_neg he]
      rw [if_neg he] at hfit
      have hfl := h.file
      have hsp := congrArg List.length (fileB_split first ds k hk)
      rw [List.length_append] at hsp
      have hN2 : ds.length * 328 ≤ N * 328 := Nat.mul_le_mul_right _ h2
      refine ⟨h.room, ?_, by rw [St.push_mass, St.push_mass]; simp only [Ch.mass]; omega, hsm, hlen, hfit⟩
      right
      rw [St.push_now, St.push_now]
      rcases h.now with ⟨_, e⟩ | e
      · exact absurd e hne
      · rw [e, ap_copy, ap_move]

/-- Sync. -/
theorem GD.sync {w0 w : World} {p pd : Nat} {s : St} {first : Int} {ds : List (List UInt8)} (h : GD w0 w p pd s first ds) (hM : s.mass ≤ 1000000) :
    Calls Tryd.prog 17 #[.pointer (some ⟨p, 0, none⟩)] w fun e w' => e = .returned (.tuple #[]) ∧ Hid (GD w0 w' p pd ⟨s.room, s.now, []⟩ first ds) := by
  obtain ⟨F, hL, hF, hbw⟩ := h
  refine (sync_log _ p pd s F first ds w hL (by omega)).mono ?_
  rintro e w' ⟨rfl, hX, hf⟩
  have hs := hbw.size
  refine ⟨rfl, _, hX, fun j hj => ?_, hbw.trans (hf.below hF hs)⟩
  rcases hj with hh | hh
  · exact hF j hh
  · omega
theorem Gs.sync {s : St} {first : Int} {ds : List (List UInt8)} {N M : Nat} (h : Gs s first ds N M) : Gs ⟨s.room, s.now, []⟩ first ds N (N * 328 + 1) := by
  have h1 := h.now.mass
  have h2 := h.file
  have h3 : ds.length * 328 ≤ N * 328 := Nat.mul_le_mul_right _ h.len
  refine ⟨h.room, h.now, ?_, h.small, h.len, h.fit⟩
  simp only [St.mass, wmass]
  simp
  omega

/-- Crash of its disk: what is left stands on a disk of its own. -/
theorem GD.crash {w0 w : World} {p pd : Nat} {s : St} {first : Int} {ds : List (List UInt8)} (h : GD w0 w p pd s first ds) (hM : s.mass ≤ 1000000) (n t : Int) :
    Calls Tryd.prog 18 #[.pointer (some ⟨pd, 0, none⟩), .int .i64 n, .int .i64 t] w fun e w' => ∃ q, e = .returned (.pointer (some ⟨q, 0, none⟩)) ∧ Hid ((∃ F, Dk w' q ⟨s.room, Dk.leftOf s n t, []⟩ F ∧ (∀ j, F j → w0.heap.size ≤ j) ∧ Below w0.heap.size w0 w') ∧ GD w0 w' p pd s first ds) := by
  obtain ⟨F, hL, hF, hbw⟩ := id h
  refine (crash_any pd s F n t w hL.dk (by omega)).mono ?_
  rintro e w' ⟨q, rfl, hq, hD, hb⟩
  have hs := hbw.size
  refine ⟨q, rfl, ⟨_, hD, fun j hj => ?_, hbw.trans (hb.mono hs)⟩, h.below hb⟩
  rcases hj with hh | hh
  · exact hh.elim
  · omega

/-- Open of a disk. -/
theorem GD.open {w0 w : World} {q : Nat} {s : St} (hD : ∃ F, Dk w q s F ∧ (∀ j, F j → w0.heap.size ≤ j) ∧ Below w0.heap.size w0 w) (hT : ∀ u, Below w0.heap.size w0 u → Fr.Tab u) (hw0 : 0 < w0.heap.size) (hm : s.mass ≤ 1000000) (hn : Nm s.now) (hf : (fileOf s nmW).length ≤ 30000) (hlen : s.now.length ≤ 100) (first : Int) (ds : List (List UInt8)) (hR : loadR (Fr.scanL (fileOf s nmW)).1 0 [] = (first, ds)) :
    Calls Tryd.prog 11 #[.pointer (some ⟨q, 0, none⟩)] w fun e w' => ∃ p, e = .returned (.tuple #[.pointer (some ⟨p, 0, none⟩), .int .i64 0]) ∧ Hid (GD w0 w' p q (openS s) first ds ∧ Below w0.heap.size w w') := by
  obtain ⟨F, hD, hF, hb⟩ := hD
  have hs := hb.size
  refine (open_any q s F w hD (hT w hb) (fun h0 => by have := hF _ h0; omega) (by omega) hn hf first ds hR).mono ?_
  rintro e w' ⟨p, rfl, ⟨F', hL, hF'⟩, hf'⟩
  have hbb : Below w0.heap.size w w' := hf'.below hF hs
  refine ⟨p, rfl, ⟨F', ⟨hL.dk, ?_, hL.np, by have := hL.new; omega⟩, fun j hj => ?_, hb.trans hbb⟩, hbb⟩
  · obtain ⟨vr, rs, G, a1, a2, a3⟩ := hL.lg
    exact ⟨vr, rs, G, a1, a2, fun k hk => ⟨(a3 k hk).1, by have := (a3 k hk).2; omega⟩⟩
  · rcases hF' j hj with hh | hh
    · exact hF j hh
    · omega
end Go.Proofs.YtnbdkojdddplkaaDoor.Wl

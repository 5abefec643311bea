/- What is read off any file is a front of it; the file that an open log leaves is the log's own. -/
import Derived.Test.YtnbdkojdddplkaaDoorWlFile
namespace Go.Proofs.YtnbdkojdddplkaaDoor.Wl
open Go.RowKit Dk

theorem scan_front : ∀ (m : Nat) (bs : List UInt8), bs.length ≤ m → ((Fr.scanL bs).1.flatMap Fr.sealL) <+: bs
  | 0, bs, h => by
    have : bs = [] := List.eq_nil_of_length_eq_zero (by omega)
    subst this
    rw [Fr.scan_nil]
    exact List.prefix_refl _
  | m + 1, bs, h => by
    cases hf : Fr.firstB bs with
    | none => rw [Fr.scan_none hf]; exact List.nil_prefix
    | some b =>
      have hs := Fr.first_some hf
      rw [Fr.scan_some hf]
      have ih := scan_front m (bs.drop (8 + b.length)) (by rw [List.length_drop]; have := hs.2.2; omega)
      rw [List.flatMap_cons]
      obtain ⟨r, hr⟩ := ih
      refine ⟨r, ?_⟩
      rw [List.append_assoc, hr]
      exact hs.2.1.symm
theorem load_front : ∀ (bs : List (List UInt8)) (f : Int) (acc : List (List UInt8)) (g : Int) (ds : List (List UInt8)), loadR bs f acc = (g, ds) → ∃ more, ds = acc ++ more ∧ (more = [] → g = f) ∧ (acc ≠ [] → g = f) ∧ fileB (if acc.length = 0 then g else f + acc.length) more <+: bs.flatMap Fr.sealL ∧ (∀ d ∈ more, d.length ≤ 32768) ∧ (more ≠ [] → 1 ≤ (if acc.length = 0 then g else f + acc.length) ∧ (if acc.length = 0 then g else f + acc.length) + more.length ≤ 9223372036854775808)
  | [], f, acc, g, ds, h => by
    rw [loadR, Prod.mk.injEq] at h
    obtain ⟨rfl, rfl⟩ := h
    exact ⟨[], by simp, fun _ => rfl, fun _ => rfl, List.nil_prefix, by simp, fun h => absurd rfl h⟩
  | body :: r, f, acc, g, ds, h => by
    rw [loadR] at h
    cases hu : unsealL body with
    | none =>
      rw [hu] at h
      simp only [Prod.mk.injEq] at h
      obtain ⟨rfl, rfl⟩ := h
      exact ⟨[], by simp, fun _ => rfl, fun _ => rfl, List.nil_prefix, by simp, fun h => absurd rfl h⟩
    | some nd =>
      obtain ⟨n, d⟩ := nd
      rw [hu] at h
      simp only at h
      by_cases hm : mayL f acc n = true
      · rw [if_pos hm] at h
        have hb := unseal_back hu
        obtain ⟨m1, m2⟩ : 1 ≤ n ∧ (acc.length = 0 ∨ n - 1 = (if acc.length = 0 then 0 else f + acc.length - 1)) := by simpa [mayL] using hm
        obtain ⟨more, h1, h2, h3, h4, h5, h6⟩ := load_front r _ _ g ds h
        have hg : g = if acc.length = 0 then n else f := h3 (by simp)
        have hnum : (if acc.length = 0 then g else f + acc.length) = n := by
          by_cases ha : acc.length = 0
          · rw [if_pos ha, hg, if_pos ha]
          · rw [if_neg ha] at m2 ⊢
            omega
        have hnext : (if (acc ++ [d]).length = 0 then g else (if acc.length = 0 then n else f) + ((acc ++ [d]).length : Int)) = n + 1 := by
          rw [if_neg (by simp), List.length_append]
          by_cases ha : acc.length = 0
          · rw [if_pos ha]; simp [ha]
          · rw [if_neg ha]
            rw [if_neg ha] at hnum
            simp
            omega
        rw [hnext] at h4 h6
        refine ⟨d :: more, by rw [h1]; simp, fun e => by simp at e, fun ha => ?_, ?_, fun x hx => ?_, ?_⟩
        · rw [hg, if_neg (fun e => ha (List.eq_nil_of_length_eq_zero e))]
        · rw [hnum, fileB, List.flatMap_cons]
          unfold recB
          rw [← hb.1]
          exact (List.prefix_append_right_inj _).2 h4
        · rcases List.mem_cons.1 hx with rfl | hx
          · exact hb.2.2.2
          · exact h5 x hx
        · intro _
          rw [hnum, List.length_cons]
          refine ⟨m1, ?_⟩
          by_cases hmo : more = []
          · subst hmo
            simp
            omega
          · have := (h6 hmo).2
            omega
      · rw [if_neg hm, Prod.mk.injEq] at h
        obtain ⟨rfl, rfl⟩ := h
        exact ⟨[], by simp, fun _ => rfl, fun _ => rfl, List.nil_prefix, by simp, fun h => absurd rfl h⟩
/-- What is read off a file: its own file is a front of that file, and is read as it. -/
theorem load_any (fb : List UInt8) (g : Int) (ds : List (List UInt8)) (h : loadR (Fr.scanL fb).1 0 [] = (g, ds)) : fileB g ds <+: fb ∧ (ds = [] → g = 0) ∧ (∀ d ∈ ds, d.length ≤ 32768) ∧ (ds ≠ [] → 1 ≤ g ∧ g + ds.length ≤ 9223372036854775808) ∧ loadR (Fr.scanL (fileB g ds)).1 0 [] = (g, ds) := by
  obtain ⟨more, h1, h2, _, h4, h5, h6⟩ := load_front _ 0 [] g ds h
  simp only [List.nil_append] at h1
  subst h1
  simp only [List.length_nil, if_true] at h4 h6
  refine ⟨h4.trans (scan_front _ fb (Nat.le_refl _)), h2, h5, h6, ?_⟩
  cases ds with
  | nil => rw [h2 rfl, fileB, Fr.scan_nil]; rfl
  | cons d r =>
    have h7 := h6 (by simp)
    rw [load_file (d :: r) g h5 h7.1 h7.2, if_neg (by simp)]
end Go.Proofs.YtnbdkojdddplkaaDoor.Wl

/- The file that an open log leaves is the log's own, whatever stood there. -/
import Derived.Test.YtnbdkojdddplkaaDoorWlFront
namespace Go.Proofs.YtnbdkojdddplkaaDoor.Wl
open Go.RowKit Dk

theorem look_ins (f : Fl) : ∀ fs : List Fl, (∀ x ∈ fs, x.name ≠ f.name) → Dk.look f.name (Dk.ins f fs) = some f
  | [], _ => by simp [Dk.look, Dk.ins]
  | x :: r, h => by
    have hx : x.name ≠ f.name := h x List.mem_cons_self
    have ih := look_ins f r (fun y hy => h y (List.mem_cons_of_mem _ hy))
    unfold Dk.ins
    split
    · simp [Dk.look]
    · unfold Dk.look at ih ⊢
      rw [List.find?_cons_of_neg (by simpa using hx)]
      exact ih
theorem del_ne (n : ByteArray) (fs : List Fl) : ∀ x ∈ Dk.del n fs, x.name ≠ n := by
  intro x hx
  unfold Dk.del at hx
  simpa using (List.mem_filter.1 hx).2
theorem open_file (s : St) (g : Int) (ds : List (List UInt8)) (h : loadR (Fr.scanL (fileOf s nmW)).1 0 [] = (g, ds)) : fileOf (openS s) nmW = fileB g ds := by
  have hp := (load_any _ g ds h).1
  have hfo : fileOf (strays s (s.now.map Fl.name)) nmW = fileOf s nmW := by unfold fileOf; rw [strays_look]
  unfold openS
  rw [h]
  simp only
  by_cases hlt : (fileB g ds).length < (fileOf s nmW).length
  · rw [if_pos hlt]
    have hl : ∃ f, Dk.look nmW (strays s (s.now.map Fl.name)).now = some f ∧ f.bs = fileOf s nmW := by
      rw [← hfo]
      rw [← hfo] at hlt
      unfold fileOf at hlt ⊢
      cases hk : Dk.look nmW (strays s (s.now.map Fl.name)).now with
      | none => rw [hk] at hlt; simp at hlt
      | some f => exact ⟨f, rfl, rfl⟩
    obtain ⟨f, hf, hfb⟩ := hl
    have hnow : ((strays s (s.now.map Fl.name)).push (.cut nmW (fileB g ds).length)).now = Dk.ins ⟨nmW, f.bs.take (fileB g ds).length⟩ (Dk.del nmW (strays s (s.now.map Fl.name)).now) := by
      rw [St.push_now]
      unfold Dk.ap
      simp only [hf]
    unfold fileOf
    rw [hnow, look_ins ⟨nmW, f.bs.take (fileB g ds).length⟩ _ (del_ne nmW _)]
    show f.bs.take (fileB g ds).length = _
    rw [hfb]
    obtain ⟨t, ht⟩ := hp
    rw [← ht, List.take_left]
  · rw [if_neg hlt, hfo]
    obtain ⟨t, ht⟩ := hp
    rw [← ht, List.length_append] at hlt
    have : t = [] := List.eq_nil_of_length_eq_zero (by omega)
    rw [← ht, this, List.append_nil]
end Go.Proofs.YtnbdkojdddplkaaDoor.Wl

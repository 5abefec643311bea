/- Opening a log makes no file and adds little. -/
import Derived.Test.YtnbdkojdddplkaaDoorWlOwn
namespace Go.Proofs.YtnbdkojdddplkaaDoor.Wl
open Go.RowKit Dk

theorem ins_len (f : Fl) : ∀ fs : List Fl, (Dk.ins f fs).length = fs.length + 1
  | [] => rfl
  | x :: r => by
    unfold Dk.ins
    split
    · rfl
    · rw [List.length_cons, ins_len f r, List.length_cons]
theorem del_len (n : ByteArray) (fs : List Fl) : (Dk.del n fs).length ≤ fs.length := List.length_filter_le _ _
theorem del_len_lt {n : ByteArray} {f : Fl} : ∀ {fs : List Fl}, Dk.look n fs = some f → (Dk.del n fs).length + 1 ≤ fs.length
  | [], h => by simp [Dk.look] at h
  | x :: r, h => by
    unfold Dk.del
    by_cases hx : x.name = n
    · rw [List.filter_cons_of_neg (by simpa using hx), List.length_cons]
      have := del_len n r
      unfold Dk.del at this
      omega
    · have hr : Dk.look n r = some f := by
        unfold Dk.look at h ⊢
        rw [List.find?_cons_of_neg (by simpa using hx)] at h
        exact h
      have ih := del_len_lt hr
      rw [List.filter_cons_of_pos (by simpa using hx), List.length_cons, List.length_cons]
      unfold Dk.del at ih
      omega
theorem stray_len (s : St) (n : ByteArray) : (strayStep s n).now.length ≤ s.now.length := by
  unfold strayStep rmStep
  split
  · split
    · rw [St.push_now]
      exact del_len n _
    · exact Nat.le_refl _
  · exact Nat.le_refl _
theorem strays_len : ∀ (ns : List ByteArray) (s : St), (strays s ns).now.length ≤ s.now.length
  | [], s => Nat.le_refl _
  | n :: ns, s => by
    have h1 := strays_len ns (strayStep s n)
    have h2 := stray_len s n
    unfold strays at h1 ⊢
    rw [List.foldl_cons]
    omega
theorem cut_len (n : ByteArray) (k : Nat) (fs : List Fl) : (Dk.ap fs (.cut n k)).length ≤ fs.length := by
  unfold Dk.ap
  cases h : Dk.look n fs with
  | none => simp only [h]; exact Nat.le_refl _
  | some f =>
    have := del_len_lt h
    simp only [h]
    rw [ins_len]
    omega
theorem openS_len (s : St) : (openS s).now.length ≤ s.now.length := by
  have h := strays_len (s.now.map Fl.name) s
  unfold openS
  split
  · rw [St.push_now]
    exact Nat.le_trans (cut_len _ _ _) h
  · exact h
theorem openS_mass (s : St) : (openS s).mass ≤ s.mass + s.now.length + 1 := by
  have h := strays_mass (s.now.map Fl.name) s
  rw [List.length_map] at h
  unfold openS
  split
  · rw [St.push_mass]
    simp only [Ch.mass]
    omega
  · omega
theorem strays_room : ∀ (ns : List ByteArray) (s : St), (strays s ns).room = s.room
  | [], s => rfl
  | n :: ns, s => by
    have h1 := strays_room ns (strayStep s n)
    have h2 : (strayStep s n).room = s.room := by
      unfold strayStep rmStep
      split
      · split <;> rfl
      · rfl
    unfold strays at h1 ⊢
    rw [List.foldl_cons, h1, h2]
theorem openS_room (s : St) : (openS s).room = s.room := by
  unfold openS
  split
  · exact strays_room _ s
  · exact strays_room _ s
end Go.Proofs.YtnbdkojdddplkaaDoor.Wl

/- The walk of Open. -/
import Derived.Test.YtoekpfopmgcbnaaDoorFrame
namespace Go.Proofs.YtoekpfopmgcbnaaDoor
open Go.RowKit

theorem own_lower {w : World} {base base' : Nat} {T : TypeId} {v : Value} {n : Nat} {xs : List Value} (h : w.ownsRow base T 1 v n xs) (hb : base' ≤ base) : w.ownsRow base' T 1 v n xs :=
  ⟨h.1, h.2.imp id fun ⟨g, cap, cur, e1, e2, e3⟩ => ⟨g, cap, cur, e1, Nat.le_trans hb e2, e3⟩⟩

theorem first_is (v : Value) (bs : List UInt8) (x : Option (List UInt8)) (b : Bool) (t : List UInt8) (w : World) (h : Sl w v bs) (ht : Tab w) (hx : firstB bs = x) (hb : x.isSome = b) (hy : x.getD [] = t) :
    Calls Tryd.prog 19 #[v] w fun e w' => ∃ v', e = .returned (.tuple #[v', .bool b]) ∧ Sl w' v' t ∧ Hid (Below w.heap.size w w') ∧ Hid (∃ m, w' = w.drewN m) := by
  refine (first_any v bs w h ht).mono ?_
  rintro e w' ⟨v', rfl, hS, m, hm⟩
  subst hx hb hy
  exact ⟨v', rfl, by subst hm; exact hS, below_draw hm, m, hm⟩

set_option maxHeartbeats 1000000 in
theorem open_any (v : Value) (bs : List UInt8) (w : World) (h : Sl w v bs) (ht : Tab w) :
    Calls Tryd.prog 11 #[v] w fun e w' => ∃ v', e = .returned (.tuple #[v', .bool (openL bs).isSome]) ∧ w'.ownsRow w.heap.size 5 1 v' ((openL bs).getD []).length (cells8 ((openL bs).getD [])) ∧ Below w.heap.size w w' := by
  obtain ⟨ao, cap, rfl, h1, h2⟩ := h.shape
  have h2' : cap ≤ 9223372036854775807 := h2
  unfold openL
  cases hx : firstB bs with
  | none =>
    have HF := first_is _ bs none false [] w h ht hx rfl rfl
    clear hx h ht
    go_enter Tryd.func11, Tryd.ntmps11
    go_wp2_with (go_at_call 19; refine HF.mono ?_; rintro e w1 ⟨v', rfl, hS, HB, HM⟩; obtain ⟨ao', cap', rfl, _, _⟩ := hS.shape)
    go_ret2
    exact ⟨_, rfl, World.ownsRow_nil _ _ _ _, HB.out⟩
  | some b =>
    have HF := first_is _ bs (some b) true b w h ht hx rfl rfl
    have hlb := (first_some hx).2.2
    have hlb2 := (first_some hx).1
    clear hx h ht
    by_cases he : bs.length = 8 + b.length
    · have he' : ((bs.length : Int) != 8 + (b.length : Int)) = false := by simp; omega
      simp only [if_pos he]
      clear he
      go_enter Tryd.func11, Tryd.ntmps11
      go_wp2_with (first
        | (go_at_call 19; refine HF.mono ?_; rintro e w1 ⟨v', rfl, hS, HB, HM⟩; obtain ⟨ao', cap', rfl, _, _⟩ := hS.shape)
        | (go_at_call 20; refine (clone_any _ b _ hS (by omega)).mono ?_; rintro e w2 ⟨v2, rfl, hO2, hb2⟩))
      go_ret2
      have hsz := HB.out.size
      exact ⟨_, rfl, own_lower hO2 hsz, HB.out.trans (hb2.mono hsz)⟩
    · have he' : ((bs.length : Int) != 8 + (b.length : Int)) = true := by simp; omega
      simp only [if_neg he]
      clear he
      go_enter Tryd.func11, Tryd.ntmps11
      go_wp2_with (go_at_call 19; refine HF.mono ?_; rintro e w1 ⟨v', rfl, hS, HB, HM⟩; obtain ⟨ao', cap', rfl, _, _⟩ := hS.shape)
      go_ret2
      exact ⟨_, rfl, World.ownsRow_nil _ _ _ _, HB.out⟩
end Go.Proofs.YtoekpfopmgcbnaaDoor

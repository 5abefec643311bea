/- What BinWrites writes and reads, as lists; two rows beside each other; the walk of the document's Text. -/
import Derived.Test.YtebfpobdggephaaReads
namespace Go.Proofs.Ytebfpobdggephaa
open Go.RowKit

/- memory: two rows of bytes beside each other -/
def Apart (u v : Value) : Prop := ∀ g, u.ownBlock = some g → v.ownBlock ≠ some g
theorem own5_wrote {w w' : World} {base b B : Nat} {u vv : Value} {n : Nat} {xs : List Value} {bs : List UInt8} (h : w.ownsRow base 5 1 u n xs) (hW : Wr w 27 b B vv bs) (hw : Wrote w w' B vv.ownBlock) (ha : Apart vv u) : w'.ownsRow base 5 1 u n xs := by
  obtain ⟨h1, h2⟩ := h
  refine ⟨h1, ?_⟩
  rcases h2 with h2 | ⟨g, cap, cur, e1, e2, e3, e4⟩
  · exact Or.inl h2
  · refine Or.inr ⟨g, cap, cur, e1, e2, ?_, e4⟩
    rw [hw.block g (lt_of_block e3) (fun e' => ?_) (fun e' => ?_)]
    · exact e3
    · subst e'
      have := hW.1
      rw [e3] at this
      simp at this
    · exact ha g e'.symm (by rw [e1]; rfl)
theorem wr_grown5 {w w' : World} {base b B : Nat} {u vv : Value} {n : Nat} {xs : List Value} {bs : List UInt8} (hW : Wr w 27 b B vv bs) (h : w.ownsRow base 5 1 u n xs) (hg : w.grownBy w' u.ownBlock) (ha : Apart vv u) : Wr w' 27 b B vv bs := by
  refine ⟨?_, hW.2.1, ?_⟩
  · rw [hg.block B hW.lt (fun e' => ?_)]
    · exact hW.1
    · rcases h.2 with ⟨rfl, _⟩ | ⟨g, cap, cur, rfl, _, e3, _⟩
      · simp [Value.ownBlock] at e'
      · simp [Value.ownBlock] at e'
        subst e'
        have := hW.1
        rw [e3] at this
        simp at this
  · rcases hW.2.2 with h2 | ⟨g, cap, cur, e1, e2, e3, e4⟩
    · exact Or.inl h2
    · refine Or.inr ⟨g, cap, cur, e1, e2, ?_, e4⟩
      rw [hg.block g (lt_of_block e3) (fun e' => ha g (by rw [e1]; rfl) e'.symm)]
      exact e3
theorem Apart.moved {w : World} {base : Nat} {u vv v' : Value} {n : Nat} {xs : List Value} (ha : Apart vv u) (hm : Moved w vv v') (h : w.ownsRow base 5 1 u n xs) : Apart v' u := by
  intro g hg e
  rcases hm with hm | ⟨k, h1, h2⟩
  · exact ha g (hm ▸ hg) e
  · rw [h1] at hg
    have := (h.lt g e).2
    simp at hg
    omega
theorem Apart.moved' {w : World} {b B : Nat} {u u' vv : Value} {bs : List UInt8} (ha : Apart vv u) (hW : Wr w 27 b B vv bs) {k : Nat} (hk : w.heap.size ≤ k) (hat : u'.ownBlock = u.ownBlock ∨ u'.ownBlock = some k) : Apart vv u' := by
  intro g hg e
  rcases hat with hat | hat
  · exact ha g hg (hat ▸ e)
  · rw [hat] at e
    have := (hW.2.lt g hg).2
    simp at e
    omega

/- the plain side: what is written, what is read -/
def encOp (kd nn : Nat → Int) (bb : Nat → List UInt8) (ff : Nat → Bool) (j : Nat) : List UInt8 :=
  if kd j = 0 then enc (nn j) else if kd j = 1 then enc ((bb j).take 60).length ++ (bb j).take 60 else [if ff j then 1 else 0]
def encOps (kd nn : Nat → Int) (bb : Nat → List UInt8) (ff : Nat → Bool) : Nat → List UInt8
  | 0 => []
  | k + 1 => encOps kd nn bb ff k ++ encOp kd nn bb ff k
section
variable (kd nn : Nat → Int) (bb : Nat → List UInt8) (ff : Nat → Bool)
theorem encOp_le (j : Nat) : (encOp kd nn bb ff j).length ≤ 70 := by
  unfold encOp
  split
  · have := enc_le (nn j); omega
  · split
    · have := enc_le ((bb j).take 60).length
      have h2 : ((bb j).take 60).length ≤ 60 := List.length_take_le _ _
      rw [List.length_append]; omega
    · simp
theorem encOps_le : ∀ k, (encOps kd nn bb ff k).length ≤ 70 * k
  | 0 => by simp [encOps]
  | k + 1 => by have := encOps_le k; have := encOp_le kd nn bb ff k; simp only [encOps, List.length_append]; omega
theorem encOps_pre (i : Nat) : ∀ d, ∃ r, encOps kd nn bb ff (i + d) = encOps kd nn bb ff i ++ r
  | 0 => ⟨[], by simp⟩
  | d + 1 => by
    obtain ⟨r, hr⟩ := encOps_pre i d
    exact ⟨r ++ encOp kd nn bb ff (i + d), by show encOps kd nn bb ff (i + d) ++ encOp kd nn bb ff (i + d) = _; rw [hr, List.append_assoc]⟩
def restOps (m j : Nat) : List UInt8 := (encOps kd nn bb ff m).drop (encOps kd nn bb ff j).length
theorem restOps_step (m j : Nat) (h : j < m) : restOps kd nn bb ff m j = encOp kd nn bb ff j ++ restOps kd nn bb ff m (j + 1) := by
  obtain ⟨r, hr⟩ := encOps_pre kd nn bb ff (j + 1) (m - (j + 1))
  rw [show j + 1 + (m - (j + 1)) = m by omega] at hr
  unfold restOps
  rw [hr, List.drop_left]
  show (encOps kd nn bb ff j ++ encOp kd nn bb ff j ++ r).drop _ = _
  rw [List.append_assoc, List.drop_left]
theorem restOps_zero (m : Nat) : restOps kd nn bb ff m 0 = encOps kd nn bb ff m := by simp [restOps, encOps]
theorem restOps_end (m : Nat) : restOps kd nn bb ff m m = [] := by simp [restOps]
end

set_option maxHeartbeats 400000 in
theorem reftext_any (v : Value) (t : List UInt8) (w : World) (h : Sl w v t) (hl : t.length ≤ 1000) :
    Calls Try.prog 13 #[v] w fun e w' => ∃ v', e = .returned v' ∧ w'.ownsRow w.heap.size 5 1 v' (enc t.length ++ t).length (cells8 (enc t.length ++ t)) ∧ Below w.heap.size w w' := by
  obtain ⟨i, hi, hz0, hz1, hz2⟩ := info_parts Try.info5
  obtain ⟨ao, cap, rfl, h1, h2⟩ := h.shape
  go_enter Try.func13, Try.ntmps13
  go_wp2_with fail
  refine (refnum_any t.length w (by omega) (by omega)).mono ?_
  rintro e w1 ⟨v1, rfl, hO1, hb1⟩
  have hS1 := h.below hb1
  have hle := enc_le t.length
  go_wp2_with (at_builtin; refine wpList_append_sl _ rfl (.tmp 5) (.tmp 6) 25 rfl w.heap.size i Try.underlying25 hi hz0 hz1 hz2 _ _ (enc t.length) t rfl hO1 rfl hS1 (by omega) hb1.size ?_)
  intro v' w2 hO2 hg2 _
  have hb2 : Below w.heap.size w w2 := hb1.grown hg2 hb1.size (fun k hk => (hO1.lt k hk).1)
  have HO : Hid (w2.ownsRow w.heap.size 5 1 v' (enc t.length ++ t).length (cells8 (enc t.length ++ t))) := by show World.ownsRow _ _ _ _ _ _ _; rw [List.length_append]; exact hO2
  obtain ⟨ao2, cap2, rfl, _, _⟩ := (Sl.of_own HO.out).shape
  clear hO2 hg2 hO1
  go_wp2
  go_ret
  exact ⟨_, rfl, HO.out, hb2⟩
end Go.Proofs.Ytebfpobdggephaa

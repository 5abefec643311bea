/- The walk of Scan. -/
import Derived.Test.YtnbdkojdddplkaaDoorFrRef
namespace Go.Proofs.YtnbdkojdddplkaaDoor.Fr
open Go.RowKit

theorem elem22 : Tryd.prog.underlying 33 = some (.slice (Tryd.prog.elem 33)) := by kernel_rfl
theorem size22 (w : World) : (sizeOf (Tryd.prog.elem 33)).run Tryd.prog w = .ok 1 w := by kernel_rfl

/-- What is behind the front of a slice, and how the program comes to it. -/
theorem slice_from {w : World} {v : Value} {bs : List UInt8} (hS : Sl w v bs) (k : Nat) (hk : k ≤ bs.length) : ∃ ao cap, Sl w (.slice ao (bs.length - k) cap) (bs.drop k) ∧
    ∀ w', (Instr.slice 33 v (some (.int .i64 (k : Int))) none none).run Tryd.prog w' = .ok (.slice ao (bs.length - k) cap) w' ∧ (Instr.sliceAt 33 v (some (.int .i64 (k : Int))) none none).run Tryd.prog w' = .ok (.slice ao (bs.length - k) cap) w' := by
  obtain ⟨ao, cap, rfl, h1, h2⟩ := hS.shape
  refine ⟨_, _, hS.drop k hk (if cap = k then ao else ao.map (·.add (k * 1))) (fun h => by rw [if_neg h, Nat.mul_one]) (fun h => by rw [if_pos h]), fun w' => ?_⟩
  have e : (Instr.slice 33 (.slice ao bs.length cap) (some (.int .i64 (k : Int))) none none).run Tryd.prog w' = .ok (.slice (if cap = k then ao else ao.map (·.add (k * 1))) (bs.length - k) (cap - k)) w' := by
    rw [run_slice_l w' 33 ao bs.length cap elem22 .i64 k (by omega) (by omega), size22]
    simp [Result.andThen, sliced]
  exact ⟨e, by rw [run_sliceAt_slice (P := Tryd.prog) w' 33 _ _ _ _ elem22]; exact e⟩

theorem Tryd.info33 : (Tryd.prog.info? 33).map (fun i => (i.zero, i.size, i.bytes)) = some (some (.slice none 0 0), 1, 24) := by kernel_rfl

/-- A slice of slices of bytes: a row of the call's own; of its elements E is said. -/
def Sls (E : Value → List UInt8 → Prop) (w : World) (base : Nat) (v : Value) (bss : List (List UInt8)) : Prop :=
  ∃ vals : List Value, vals.length = bss.length ∧ w.ownsRow base 33 1 v bss.length vals ∧ ∀ (j : Nat) (b : List UInt8), bss[j]? = some b → ∃ u, vals[j]? = some u ∧ E u b
/-- An element that is a row of its own. -/
def El (w : World) (base : Nat) (u : Value) (b : List UInt8) : Prop := w.ownsRow base 5 1 u b.length (cells8 b)

theorem El.sl {w : World} {base : Nat} {u : Value} {b : List UInt8} (h : El w base u b) : Sl w u b := Sl.of_own h
theorem El.grown {w w' : World} {base : Nat} {u v : Value} {b : List UInt8} {n : Nat} {xs : List Value} (h : El w base u b) (hv : w.ownsRow base 33 1 v n xs) (hg : w.grownBy w' v.ownBlock) : El w' base u b := by
  obtain ⟨h1, h2⟩ := h
  refine ⟨h1, ?_⟩
  rcases h2 with h2 | ⟨g, cap, cur, e1, e2, e3, e4⟩
  · exact Or.inl h2
  · refine Or.inr ⟨g, cap, cur, e1, e2, ?_, e4⟩
    rw [hg.block g (lt_of_block e3)]
    · exact e3
    · intro e
      rcases hv.2 with ⟨rfl, _⟩ | ⟨g', cap', cur', rfl, _, hg', _⟩
      · simp [Value.ownBlock] at e
      · simp [Value.ownBlock] at e
        subst e
        rw [e3] at hg'
        simp at hg'
theorem Sls.nil (E : Value → List UInt8 → Prop) (w : World) (base : Nat) : Sls E w base (.slice none 0 0) [] := ⟨[], rfl, World.ownsRow_nil _ _ _ _, fun j b h => by simp at h⟩
theorem Sls.shape {E : Value → List UInt8 → Prop} {w : World} {base : Nat} {v : Value} {bss : List (List UInt8)} (h : Sls E w base v bss) : ∃ ao cap, v = .slice ao bss.length cap ∧ bss.length ≤ cap ∧ cap ≤ maxLen ∧ (0 < bss.length → ∃ g, ao = some ⟨g, 0, none⟩) := by
  obtain ⟨vals, _, ho, _⟩ := h
  rcases ho.2 with ⟨rfl, h0⟩ | ⟨g, cap, cur, rfl, _, _, hn, hc, _⟩
  · rw [h0]; exact ⟨none, 0, rfl, Nat.le_refl _, by simp [maxLen], fun h => by omega⟩
  · exact ⟨_, cap, rfl, hn, hc, fun _ => ⟨g, rfl⟩⟩
theorem Sls.below {w w' : World} {base : Nat} {v : Value} {bss : List (List UInt8)} (h : Sls (El w base) w base v bss) (hb : Below w.heap.size w w') : Sls (El w' base) w' base v bss := by
  obtain ⟨vals, hl, ho, he⟩ := h
  refine ⟨vals, hl, own_below ho hb, fun j b hj => ?_⟩
  obtain ⟨u, h1, h2⟩ := he j b hj
  exact ⟨u, h1, own_below h2 hb⟩
/-- One more element. -/
theorem Sls.push {wr w2 w3 : World} {base : Nat} {vv v' v2 : Value} {done : List (List UInt8)} {b : List UInt8} {vals : List Value} (o : Obj) (hl : vals.length = done.length) (ho : wr.ownsRow base 33 1 vv done.length vals)
    (he : ∀ (j : Nat) (b : List UInt8), done[j]? = some b → ∃ u, vals[j]? = some u ∧ El wr base u b) (hb : Below wr.heap.size wr w2) (hc : El w2 base v2 b)
    (hO : w3.ownsRow base 33 1 v' (done.length + 1) (vals ++ [v2])) (hg : (w2.alloc o).grownBy w3 vv.ownBlock) : Sls (El w3 base) w3 base v' (done ++ [b]) := by
  have hv : (w2.alloc o).ownsRow base 33 1 vv done.length vals := (own_below ho hb).alloc o
  refine ⟨vals ++ [v2], by simp [hl], by rw [List.length_append]; exact hO, fun j x hj => ?_⟩
  by_cases h : j < done.length
  · rw [List.getElem?_append_left h] at hj
    obtain ⟨u, h1, h2⟩ := he j x hj
    exact ⟨u, by rw [List.getElem?_append_left (by omega)]; exact h1, El.grown ((own_below h2 hb).alloc o) hv hg⟩
  · rw [List.getElem?_append_right (by omega)] at hj ⊢
    have hj0 : j - done.length = 0 := by
      have := (List.getElem?_eq_some_iff.1 hj).1
      simp at this
      omega
    rw [hj0] at hj
    rw [hl, hj0]
    simp at hj
    subst hj
    exact ⟨v2, rfl, El.grown (hc.alloc o) hv hg⟩

set_option maxHeartbeats 2000000 in
theorem scan_any (v : Value) (bs : List UInt8) (w : World) (hS : Sl w v bs) (ht : Tab w) (hlim : bs.length ≤ 100000) :
    Calls Tryd.prog 52 #[v] w fun e w' => ∃ vl, e = .returned (.tuple #[vl, .int .i64 ((scanL bs).2 : Int)]) ∧ Sls (El w' w.heap.size) w' w.heap.size vl (scanL bs).1 ∧ Below w.heap.size w w' := by
  obtain ⟨i, hi, hz0, hz1, hz2⟩ := info_parts Tryd.info33
  obtain ⟨ao, cap, rfl, h1, h2⟩ := hS.shape
  have HS : Hid (Sl w (.slice ao bs.length cap) bs) := hS
  have HT : Hid (Tab w) := ht
  clear hS ht
  go_enter Tryd.func52, Tryd.ntmps52
  go_wp2_with fail
  go_loopw [4, 5] (fun vb sz wr => ∃ (k : Nat) (done : List (List UInt8)), k ≤ bs.length ∧ done.length ≤ k ∧ sz = .int .i64 k ∧ Sls (El wr w.heap.size) wr w.heap.size vb done ∧ Hid (done ++ (scanL (bs.drop k)).1 = (scanL bs).1) ∧ Hid (k + (scanL (bs.drop k)).2 = (scanL bs).2) ∧ Below w.heap.size w wr) (fun _ sz _ => bs.length - (intOf sz).toNat)
  case atStart => exact ⟨0, [], Nat.zero_le _, Nat.zero_le _, rfl, Sls.nil _ _ _, rfl, Nat.zero_add _, Below.refl _ _⟩
  case round =>
    obtain ⟨k, done, hk, hdk, rfl, hL, HD, HK, hb⟩ := hrel
    obtain ⟨ao1, cap1, hS1, hsl⟩ := slice_from (HS.out.below hb) k hk
    obtain ⟨hsl1, hsl2⟩ := hsl wr
    obtain ⟨aov, capv, hvv, _⟩ := hL.shape
    subst hvv
    have hszr := hb.size
    cases hx : firstB (bs.drop k) with
    | none =>
      have HF := first_is _ (bs.drop k) none false [] wr hS1 (HT.out.below hb) hx rfl rfl
      have hsc := scan_none hx
      have e1 : (scanL bs).1 = done := by rw [← HD.out, hsc, List.append_nil]
      have e2 : (scanL bs).2 = k := by rw [← HK.out, hsc, Nat.add_zero]
      have HE1 : Hid ((scanL bs).1 = done) := e1
      have HE2 : Hid ((scanL bs).2 = k) := e2
      have HL : Hid (Sls (El wr w.heap.size) wr w.heap.size (.slice aov done.length capv) done) := hL
      clear hx hsl hsc e1 e2 hL
      go_wp2_with (go_at_call 68; refine HF.mono ?_; rintro e w1 ⟨v', rfl, hS', HB, HM⟩; obtain ⟨ao', cap', rfl, _, _⟩ := hS'.shape)
      go_ret2
      rw [HE1.out, HE2.out]
      exact ⟨_, rfl, Sls.below HL.out HB.out, hb.trans (HB.out.mono hszr)⟩
    | some b =>
      have HF := first_is _ (bs.drop k) (some b) true b wr hS1 (HT.out.below hb) hx rfl rfl
      have hsc := scan_some hx
      rw [List.drop_drop] at hsc
      have hbl := (first_some hx).2.2
      rw [List.length_drop] at hbl
      have HD' : Hid ((done ++ [b]) ++ (scanL (bs.drop (k + (8 + b.length)))).1 = (scanL bs).1) := by
        show _ = _
        rw [← HD.out, hsc, List.append_assoc]
        rfl
      have HK' : Hid (k + (8 + b.length) + (scanL (bs.drop (k + (8 + b.length)))).2 = (scanL bs).2) := by
        show _ = _
        rw [← HK.out, hsc]
        omega
      obtain ⟨vals, hvl, hO, hE⟩ := hL
      have HO : Hid (wr.ownsRow w.heap.size 33 1 (.slice aov done.length capv) done.length vals) := hO
      have HE : Hid (∀ (j : Nat) (b : List UInt8), done[j]? = some b → ∃ u, vals[j]? = some u ∧ El wr w.heap.size u b) := hE
      have HV : Hid (vals.length = done.length) := hvl
      clear hx hsl hsc HD HK hO hE hvl
      go_wp2_with (first
        | (go_at_call 68; refine HF.mono ?_; rintro e w1 ⟨v', rfl, hS', HB, HM⟩; obtain ⟨ao', cap', rfl, _, _⟩ := hS'.shape))
      refine (clone_any _ b _ hS' (by omega)).mono ?_
      rintro e w2 ⟨v2, rfl, hO2, hb2⟩
      have HB2 : Hid (Below wr.heap.size wr w2) := HB.out.trans (hb2.mono HB.out.size)
      have HE2 : Hid (El w2 w.heap.size v2 b) := own_lower hO2 (Nat.le_trans hszr HB.out.size)
      have hs2 : w.heap.size ≤ w2.heap.size := Nat.le_trans hszr HB2.out.size
      have HA : Hid (w2.ownsRow w.heap.size 33 1 (.slice aov done.length capv) done.length vals) := own_below HO.out HB2.out
      obtain ⟨ao2, cap2, rfl, _, _⟩ := (Sl.of_own hO2).shape
      clear hO2 hb2
      go_wp2_with (at_builtin; refine wpList_append_own_at _ rfl (.tmp 19) (.tmp 22) 30 rfl w.heap.size 33 i (.slice none 0 0) 1 24 Tryd.underlying30 hi hz0 hz1 hz2 rfl (by decide) (.slice aov done.length capv) done.length vals rfl (World.ownsRow.alloc HA.out _) ⟨w2.heap.size, 0, none⟩ 1 1 [_] rfl rfl (cell_one_new _ _ _) (fun u hu => by simp at hu; subst hu; rfl) (by simp only [maxLen]; omega) (by omega) (by simp; omega) ?_)
      intro v' w3 hO3 hg3 _ _
      have hL3 := Sls.push _ HV.out HO.out HE.out HB2.out HE2.out hO3 hg3
      have hb3 : Below w.heap.size w w3 := ((hb.trans (HB2.out.mono hszr)).alloc hs2 _).grown hg3 (by simp; omega) (fun g hg => (HO.out.lt g hg).1)
      clear hO3 hg3
      obtain ⟨ao3, cap3, e3, _⟩ := hL3.shape
      subst e3
      go_wp2
      go_roundw
      case rel => exact ⟨k + (8 + b.length), done ++ [b], by omega, by simp; omega, by go_num, hL3, HD', HK', hb3⟩
      case measure => simp [intOf]; omega
end Go.Proofs.YtnbdkojdddplkaaDoor.Fr

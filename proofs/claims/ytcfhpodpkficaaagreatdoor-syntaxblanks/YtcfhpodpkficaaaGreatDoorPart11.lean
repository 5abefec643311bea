/- Whether the last word of the longest good beginning goes on. Whether the last word of the longest good beginning goes on: what its sixteen bytes say. The walks of scans, good and its closure, sort.Search. The walks of goesOn, ahead, and words where there is a fault. -/
import Derived.Test.YtcfhpodpkficaaaGreatDoorPart10
import Derived.Test.YtcfhpodpkficaaaGreatDoorPart09
namespace Go.Proofs.YtcfhpodpkficaaaGreatDoor.Ft
open Lx

theorem front_pos (N : Nat) : ∀ (L : List UInt8) (a : Nat), L.length ≤ N → (∀ w ∈ frontL L a, a ≤ w.2.2) ∧ (∀ w ∈ ov L a, a ≤ w.2.2) := by
  induction N with
  | zero =>
    intro L a hl
    obtain rfl : L = [] := by cases L; rfl; simp at hl
    rw [frontL_nil, show ov [] a = [] by rw [ov]]
    simp
  | succ N ih =>
    intro L a hl
    match L with
    | [] =>
      rw [frontL_nil, show ov [] a = [] by rw [ov]]
      simp
    | c :: t =>
      simp only [List.length_cons] at hl
      rw [frontL_cons, ov_cons]
      by_cases hb : blankN c.toNat = true
      · rw [if_pos hb, if_pos hb]
        have := ih t (a + 1) (by omega)
        exact ⟨fun w hw => by have := this.1 w hw; omega, fun w hw => by have := this.2 w hw; omega⟩
      · rw [if_neg hb, if_neg hb]
        by_cases h37 : c.toNat = 37
        · rw [if_pos h37, if_pos h37]
          have := ih (t.drop (lineL t)) (a + 1 + lineL t) (by rw [List.length_drop]; omega)
          exact ⟨fun w hw => by have := this.1 w hw; omega, fun w hw => by have := this.2 w hw; omega⟩
        · rw [if_neg h37, if_neg h37]
          by_cases h0 : sizeL (c :: t) = 0
          · rw [if_pos (Or.inl h0), if_pos h0]
            simp
          · by_cases h16 : 16 < sizeL (c :: t)
            · rw [if_pos (Or.inr h16), if_neg h0, if_pos h16]
              simp
            · rw [if_neg (by omega), if_neg h0, if_neg h16]
              have := ih (t.drop (sizeL (c :: t) - 1)) (a + sizeL (c :: t)) (by rw [List.length_drop]; omega)
              refine ⟨fun w hw => ?_, fun w hw => by have := this.2 w hw; omega⟩
              rcases List.mem_cons.1 hw with rfl | hw
              · exact Nat.le_refl _
              · have := this.1 w hw
                omega

theorem runP_all' (p : Nat → Bool) (L : List UInt8) (h : ∀ c ∈ L, p c.toNat = true) : runP p L = L.length := by
  induction L with
  | nil => rfl
  | cons c t ih => rw [runP, if_pos (h c (by simp)), ih (fun d hd => h d (by simp [hd])), List.length_cons]
theorem runP_mem' (p : Nat → Bool) (L : List UInt8) : ∀ c ∈ L.take (runP p L), p c.toNat = true := by
  induction L with
  | nil => simp
  | cons d t ih =>
    by_cases h : p d.toNat = true
    · have e : runP p (d :: t) = runP p t + 1 := by simp [runP, h]
      rw [e, List.take_succ_cons]
      intro c hc
      rcases List.mem_cons.1 hc with rfl | hc
      · exact h
      · exact ih c hc
    · have e : runP p (d :: t) = 0 := by simp [runP, h]
      rw [e]
      simp
theorem runP_stop (p : Nat → Bool) (X : List UInt8) (c : UInt8) (h : ∀ d ∈ X, p d.toNat = true) (hc : p c.toNat = false) : runP p (X ++ [c]) = X.length := by
  induction X with
  | nil => simp [runP, hc]
  | cons d t ih => rw [List.cons_append, runP, if_pos (h d (by simp)), ih (fun e he => h e (by simp [he])), List.length_cons]
theorem runP_next (p : Nat → Bool) (L : List UInt8) (c : UInt8) (r : List UInt8) (n : Nat) (h : runP p L = n) (hd : L.drop n = c :: r) : p c.toNat = false := by
  induction L generalizing n with
  | nil => simp at hd
  | cons d t ih =>
    by_cases hp : p d.toNat = true
    · have e : runP p (d :: t) = runP p t + 1 := by simp [runP, hp]
      obtain ⟨k, rfl⟩ : ∃ k, n = k + 1 := ⟨n - 1, by omega⟩
      exact ih k (by omega) (by simpa using hd)
    · have e : runP p (d :: t) = 0 := by simp [runP, hp]
      have : n = 0 := by omega
      subst this
      simp at hd
      rw [← hd.1]
      simpa using hp

/-- A word of sixteen bytes, its last left out, another byte in its place. -/
theorem size_swap (c : UInt8) (t : List UInt8) (d : UInt8) (n : Nat) (hn : sizeL (c :: t) = n) (h16 : 16 ≤ n) :
    (∀ r, (c :: t).drop 16 = d :: r → 16 < n → sizeL ((c :: t).take 15 ++ [d]) = 16) ∧ (∀ r, (c :: t).drop 16 = d :: r → n = 16 → sizeL ((c :: t).take 15 ++ [d]) = 15) := by
  have hx : ∀ y, kindL ((c :: t).take 15 ++ y) = kindL (c :: t) := fun y => by simp [kindL]
  have hlen : ∀ r, (c :: t).drop 16 = d :: r → 16 < (c :: t).length := fun r hr => by
    have := congrArg List.length hr
    rw [List.length_drop] at this
    simp only [List.length_cons] at this ⊢
    omega
  have hl15 : ∀ r, (c :: t).drop 16 = d :: r → ((c :: t).take 15).length = 15 := fun r hr => by
    have := hlen r hr
    rw [List.length_take]
    omega
  -- a run of p
  have run : ∀ p : Nat → Bool, runP p (c :: t) = n → ∀ r, (c :: t).drop 16 = d :: r → (16 < n → runP p ((c :: t).take 15 ++ [d]) = 16) ∧ (n = 16 → runP p ((c :: t).take 15 ++ [d]) = 15) := fun p hp r hr => by
    have hm := runP_mem' p (c :: t)
    rw [hp] at hm
    have h15 : ∀ e ∈ (c :: t).take 15, p e.toNat = true := fun e he => hm e (by
      have : (c :: t).take 15 = ((c :: t).take n).take 15 := by rw [List.take_take, Nat.min_eq_left (by omega)]
      rw [this] at he
      exact List.mem_of_mem_take he)
    refine ⟨fun hlt => ?_, fun he => ?_⟩
    · have hd : p d.toNat = true := hm d (by
        have e : (c :: t).take n = (c :: t).take 16 ++ ((c :: t).drop 16).take (n - 16) := by
          rw [← List.take_add, show 16 + (n - 16) = n by omega]
        rw [e, hr]
        obtain ⟨k, hk⟩ : ∃ k, n - 16 = k + 1 := ⟨n - 17, by omega⟩
        rw [hk, List.take_succ_cons]
        simp)
      rw [runP_all' p _ (fun e he => by
        rcases List.mem_append.1 he with he | he
        · exact h15 e he
        · obtain rfl : e = d := by simpa using he
          exact hd), List.length_append, hl15 r hr]
      rfl
    · have hd := runP_next p (c :: t) d r 16 (by omega) hr
      rw [runP_stop p _ d h15 hd, hl15 r hr]
  by_cases k1 : kindL (c :: t) = 1
  · have e : runP nameN (c :: t) = n := by rw [← hn]; simp [sizeL, k1]
    have es : sizeL ((c :: t).take 15 ++ [d]) = runP nameN ((c :: t).take 15 ++ [d]) := by rw [sizeL, hx, if_pos k1]
    rw [es]
    exact ⟨fun r hr hlt => (run _ e r hr).1 hlt, fun r hr he => (run _ e r hr).2 he⟩
  · by_cases k2 : kindL (c :: t) = 2
    · have e : runP varN (c :: t) = n := by rw [← hn]; simp [sizeL, k2]
      have es : sizeL ((c :: t).take 15 ++ [d]) = runP varN ((c :: t).take 15 ++ [d]) := by rw [sizeL, hx, if_neg k1, if_pos k2]
      rw [es]
      exact ⟨fun r hr hlt => (run _ e r hr).1 hlt, fun r hr he => (run _ e r hr).2 he⟩
    · by_cases k3 : kindL (c :: t) = 3
      · have e : numL (c :: t) = n := by rw [← hn]; simp [sizeL, k3]
        have es : sizeL ((c :: t).take 15 ++ [d]) = numL ((c :: t).take 15 ++ [d]) := by rw [sizeL, hx, if_neg k1, if_neg k2, if_pos k3]
        rw [es]
        by_cases c1 : c.toNat = 48
        · simp [numL, c1] at e
          omega
        · by_cases c2 : c.toNat = 45
          · match t with
            | [] => simp [numL, c2] at e; omega
            | d2 :: t2 =>
              by_cases h3 : d2.toNat = 48
              · simp [numL, c2, h3] at e; omega
              · by_cases h4 : digitN d2.toNat = true
                · have e2 : runP digitN t2 + 2 = n := by rw [← e]; simp [numL, c2, h3, h4]
                  have en : numL ((c :: d2 :: t2).take 15 ++ [d]) = runP digitN (t2.take 13 ++ [d]) + 2 := by
                    show numL (c :: d2 :: (t2.take 13 ++ [d])) = _
                    simp only [numL, if_neg c1, if_pos c2, if_neg h3, if_pos h4]
                  rw [en]
                  have hm := runP_mem' digitN t2
                  have h13 : ∀ e ∈ t2.take 13, digitN e.toNat = true := fun e he => hm e (by
                    have : t2.take 13 = (t2.take (runP digitN t2)).take 13 := by rw [List.take_take, Nat.min_eq_left (by omega)]
                    rw [this] at he
                    exact List.mem_of_mem_take he)
                  have hl13 : (t2.take 13).length = 13 := by
                    have := runP_le digitN t2
                    rw [List.length_take]
                    omega
                  refine ⟨fun r hr hlt => ?_, fun r hr he => ?_⟩
                  · have hr2 : t2.drop 14 = d :: r := by simpa using hr
                    have hd : digitN d.toNat = true := hm d (by
                      have e : t2.take (runP digitN t2) = t2.take 14 ++ (t2.drop 14).take (runP digitN t2 - 14) := by
                        rw [← List.take_add, show 14 + (runP digitN t2 - 14) = runP digitN t2 by omega]
                      rw [e, hr2]
                      obtain ⟨k, hk⟩ : ∃ k, runP digitN t2 - 14 = k + 1 := ⟨runP digitN t2 - 15, by omega⟩
                      rw [hk, List.take_succ_cons]
                      simp)
                    rw [runP_all' digitN _ (fun e he => by
                      rcases List.mem_append.1 he with he | he
                      · exact h13 e he
                      · obtain rfl : e = d := by simpa using he
                        exact hd), List.length_append, hl13]
                    rfl
                  · have hr2 : t2.drop 14 = d :: r := by simpa using hr
                    have hd := runP_next digitN t2 d r 14 (by omega) hr2
                    rw [runP_stop digitN _ d h13 hd, hl13]
                · simp [numL, c2, h3, h4] at e; omega
          · have e0 : ∀ t, numL (c :: t) = runP digitN (c :: t) := fun t => by simp only [numL, if_neg c1, if_neg c2]
            have e1 : runP digitN (c :: t) = n := by rw [← e0]; exact e
            have e2 : numL ((c :: t).take 15 ++ [d]) = runP digitN ((c :: t).take 15 ++ [d]) := by
              rw [List.take_succ_cons, List.cons_append, e0]
            rw [e2]
            exact ⟨fun r hr hlt => (run _ e1 r hr).1 hlt, fun r hr he => (run _ e1 r hr).2 he⟩
      · have e : signL (c :: t) = n := by rw [← hn]; simp [sizeL, k1, k2, k3]
        have := signL_two (c :: t)
        omega

end Go.Proofs.YtcfhpodpkficaaaGreatDoor.Ft
namespace Go.Proofs.YtcfhpodpkficaaaGreatDoor.Ft
open Lx

/-- Fifteen bytes from the word's place on, and the byte behind the beginning. -/
def swp (L : List UInt8) (k : Nat) : List UInt8 := (L.drop k).take 15 ++ (L.drop (gl L)).take 1
theorem goes_on (N : Nat) : ∀ (L : List UInt8) (a : Nat), L.length ≤ N → (∃ b, scanL L b = none) →
    (ov L a = [] → ∀ w, (frontL L a).getLast? = some w → w.2.1.length = 16 → w.2.2 + 16 = a + gl L → scanL (swp L (w.2.2 - a)) 0 = none) ∧
    (∀ w, ov L a = [w] → w.2.1.length = 16 ∧ w.2.2 + 16 = a + gl L ∧ ∃ x, scanL (swp L (w.2.2 - a)) 0 = some [x]) ∧
    (ov L a = [] ∨ ∃ w, ov L a = [w]) := by
  induction N with
  | zero =>
    intro L a hl ⟨b, hn⟩
    obtain rfl : L = [] := by cases L; rfl; simp at hl
    rw [scanL_nil] at hn
    cases hn
  | succ N ih =>
    intro L a hl ⟨a0, hnone⟩
    match L with
    | [] =>
      rw [scanL_nil] at hnone
      cases hnone
    | c :: t =>
      simp only [List.length_cons] at hl
      -- behind a front of k bytes
      have shift : ∀ k (T : List UInt8), T = (c :: t).drop k → gl (c :: t) = gl T + k → ∀ j, swp (c :: t) (j + k) = swp T j := fun k T hT hg j => by
        unfold swp
        rw [hg, hT, List.drop_drop, List.drop_drop, Nat.add_comm k j, Nat.add_comm k]
      by_cases hb : blankN c.toNat = true
      · rw [scan_blank' c t a0 hb] at hnone
        obtain ⟨g1, g2, g3⟩ := ih t (a + 1) (by omega) ⟨_, hnone⟩
        have hp := front_pos _ t (a + 1) (Nat.le_refl _)
        have eg : gl (c :: t) = gl t + 1 := by rw [gl_cons, if_pos hb]
        have eo : ov (c :: t) a = ov t (a + 1) := by rw [ov_cons, if_pos hb]
        have ef : frontL (c :: t) a = frontL t (a + 1) := by rw [frontL_cons, if_pos hb]
        rw [eo, ef]
        refine ⟨fun h w hw h16 he => ?_, fun w hw => ?_, g3⟩
        · have := hp.1 w (List.mem_of_getLast? hw)
          rw [show w.2.2 - a = (w.2.2 - (a + 1)) + 1 by omega, shift 1 t rfl eg]
          exact g1 h w hw h16 (by omega)
        · have := hp.2 w (by rw [hw]; simp)
          obtain ⟨q1, q2, q3⟩ := g2 w hw
          refine ⟨q1, by omega, ?_⟩
          rw [show w.2.2 - a = (w.2.2 - (a + 1)) + 1 by omega, shift 1 t rfl eg]
          exact q3
      · by_cases h37 : c.toNat = 37
        · rw [scan_note' c t a0 h37] at hnone
          obtain ⟨g1, g2, g3⟩ := ih (t.drop (lineL t)) (a + 1 + lineL t) (by rw [List.length_drop]; omega) ⟨_, hnone⟩
          have hp := front_pos _ (t.drop (lineL t)) (a + 1 + lineL t) (Nat.le_refl _)
          have eg : gl (c :: t) = gl (t.drop (lineL t)) + (1 + lineL t) := by rw [gl_cons, if_neg hb, if_pos h37]
          have eo : ov (c :: t) a = ov (t.drop (lineL t)) (a + 1 + lineL t) := by rw [ov_cons, if_neg hb, if_pos h37]
          have ef : frontL (c :: t) a = frontL (t.drop (lineL t)) (a + 1 + lineL t) := by rw [frontL_cons, if_neg hb, if_pos h37]
          have ed : t.drop (lineL t) = (c :: t).drop (1 + lineL t) := by rw [Nat.add_comm, List.drop_succ_cons]
          rw [eo, ef]
          refine ⟨fun h w hw h16 he => ?_, fun w hw => ?_, g3⟩
          · have := hp.1 w (List.mem_of_getLast? hw)
            rw [show w.2.2 - a = (w.2.2 - (a + 1 + lineL t)) + (1 + lineL t) by omega, shift _ _ ed eg]
            exact g1 h w hw h16 (by omega)
          · have := hp.2 w (by rw [hw]; simp)
            obtain ⟨q1, q2, q3⟩ := g2 w hw
            refine ⟨q1, by omega, ?_⟩
            rw [show w.2.2 - a = (w.2.2 - (a + 1 + lineL t)) + (1 + lineL t) by omega, shift _ _ ed eg]
            exact q3
        · by_cases h0 : sizeL (c :: t) = 0
          · have eo : ov (c :: t) a = [] := by rw [ov_cons, if_neg hb, if_neg h37, if_pos h0]
            have ef : frontL (c :: t) a = [] := by rw [frontL_cons, if_neg hb, if_neg h37, if_pos (Or.inl h0)]
            rw [eo, ef]
            exact ⟨fun _ w hw => (by cases hw), fun w hw => (by cases hw), Or.inl rfl⟩
          · have hsl := sizeL_le (c :: t)
            by_cases h16 : 16 < sizeL (c :: t)
            · have eg : gl (c :: t) = 16 := by rw [gl_cons, if_neg hb, if_neg h37, if_neg h0, if_pos h16]
              have eo : ov (c :: t) a = [(kindL (c :: t), (c :: t).take 16, a)] := by rw [ov_cons, if_neg hb, if_neg h37, if_neg h0, if_pos h16]
              rw [eo]
              refine ⟨fun h => (by cases h), fun w hw => ?_, Or.inr ⟨_, rfl⟩⟩
              obtain rfl : (kindL (c :: t), (c :: t).take 16, a) = w := by simpa using hw
              refine ⟨by show ((c :: t).take 16).length = 16; rw [List.length_take]; omega, by rw [eg], ?_⟩
              obtain ⟨d, r, hr⟩ : ∃ d r, (c :: t).drop 16 = d :: r := by
                cases hd : (c :: t).drop 16 with
                | nil =>
                  have := congrArg List.length hd
                  rw [List.length_drop] at this
                  simp only [List.length_nil] at this
                  omega
                | cons d r => exact ⟨d, r, rfl⟩
              have hs := (size_swap c t d _ rfl (by omega)).1 r hr h16
              have es : swp (c :: t) (a - a) = (c :: t).take 15 ++ [d] := by
                unfold swp
                rw [eg, hr, Nat.sub_self]
                rfl
              rw [show ((kindL (c :: t), (c :: t).take 16, a) : Wd).2.2 = a from rfl, es]
              rw [List.take_succ_cons, List.cons_append] at hs ⊢
              have hl : (t.take 14 ++ [d]).length = 15 := by
                simp only [List.length_append, List.length_take, List.length_cons, List.length_nil] at hsl ⊢
                omega
              refine ⟨(kindL (c :: (t.take 14 ++ [d])), (c :: (t.take 14 ++ [d])).take 16, 0), ?_⟩
              rw [scan_word' _ _ _ hb h37 (by omega) (by omega), hs, List.drop_eq_nil_of_le (by omega), scanL_nil]
              rfl
            · rw [scan_word' c t a0 hb h37 h0 h16, Option.map_eq_none_iff] at hnone
              obtain ⟨g1, g2, g3⟩ := ih (t.drop (sizeL (c :: t) - 1)) (a + sizeL (c :: t)) (by rw [List.length_drop]; omega) ⟨_, hnone⟩
              have hp := front_pos _ (t.drop (sizeL (c :: t) - 1)) (a + sizeL (c :: t)) (Nat.le_refl _)
              have eg : gl (c :: t) = gl (t.drop (sizeL (c :: t) - 1)) + sizeL (c :: t) := by rw [gl_cons, if_neg hb, if_neg h37, if_neg h0, if_neg h16]
              have eo : ov (c :: t) a = ov (t.drop (sizeL (c :: t) - 1)) (a + sizeL (c :: t)) := by rw [ov_cons, if_neg hb, if_neg h37, if_neg h0, if_neg h16]
              have ef : frontL (c :: t) a = (kindL (c :: t), (c :: t).take (sizeL (c :: t)), a) :: frontL (t.drop (sizeL (c :: t) - 1)) (a + sizeL (c :: t)) := by rw [frontL_cons, if_neg hb, if_neg h37, if_neg (by omega)]
              have ed : t.drop (sizeL (c :: t) - 1) = (c :: t).drop (sizeL (c :: t)) := by
                obtain ⟨k, hk⟩ : ∃ k, sizeL (c :: t) = k + 1 := ⟨sizeL (c :: t) - 1, by omega⟩
                rw [hk, List.drop_succ_cons]
                rfl
              have hcut := cut_all _ (t.drop (sizeL (c :: t) - 1)) (Nat.le_refl _) ⟨_, hnone⟩
              rw [eo, ef]
              refine ⟨fun h w hw h16' he => ?_, fun w hw => ?_, g3⟩
              · generalize hT : t.drop (sizeL (c :: t) - 1) = T at *
                cases hF : frontL T (a + sizeL (c :: t)) with
                | cons y ys =>
                  rw [hF] at hw
                  have hw2 : (frontL T (a + sizeL (c :: t))).getLast? = some w := by
                    rw [hF]
                    rw [List.getLast?_cons_cons] at hw
                    exact hw
                  have := hp.1 w (List.mem_of_getLast? hw2)
                  rw [show w.2.2 - a = (w.2.2 - (a + sizeL (c :: t))) + sizeL (c :: t) by omega, shift _ _ ed eg]
                  exact g1 h w hw2 h16' (by omega)
                | nil =>
                  rw [hF] at hw
                  obtain rfl : (kindL (c :: t), (c :: t).take (sizeL (c :: t)), a) = w := by simpa using hw
                  have hn16 : sizeL (c :: t) = 16 := by
                    have : ((c :: t).take (sizeL (c :: t))).length = 16 := h16'
                    rw [List.length_take] at this
                    omega
                  have hg0 : gl T = 0 := by
                    have : a + 16 = a + gl (c :: t) := he
                    omega
                  match T, hg0 with
                  | [], _ =>
                    exfalso
                    rw [scanL_nil] at hnone
                    cases hnone
                  | d :: r, hg0 =>
                    have hb2 : ¬ blankN d.toNat = true := fun hb2 => by rw [gl_cons, if_pos hb2] at hg0; omega
                    have h372 : ¬ d.toNat = 37 := fun h372 => by rw [gl_cons, if_neg hb2, if_pos h372] at hg0; omega
                    have h02 : sizeL (d :: r) = 0 := by
                      rw [gl_cons, if_neg hb2, if_neg h372] at hg0
                      by_cases h02 : sizeL (d :: r) = 0
                      · exact h02
                      · rw [if_neg h02] at hg0
                        split at hg0
                        · omega
                        · omega
                    have hr : (c :: t).drop 16 = d :: r := by rw [← hn16, ← ed]
                    have hs := (size_swap c t d _ rfl (by omega)).2 r hr hn16
                    have es : swp (c :: t) (a - a) = (c :: t).take 15 ++ [d] := by
                      unfold swp
                      rw [eg, hg0, hn16, Nat.zero_add, hr, Nat.sub_self]
                      rfl
                    have hz : sizeL [d] = 0 := size_zero d r 1 (by omega) h02
                    rw [show ((kindL (c :: t), (c :: t).take (sizeL (c :: t)), a) : Wd).2.2 = a from rfl, es]
                    rw [List.take_succ_cons, List.cons_append] at hs ⊢
                    have hl : (t.take 14).length = 14 := by
                      simp only [List.length_take, List.length_cons] at hsl ⊢
                      omega
                    have hd14 : (t.take 14 ++ [d]).drop (15 - 1) = [d] := List.drop_left' hl
                    rw [scan_word' _ _ _ hb h37 (by omega) (by omega), hs, hd14, scan_bad' d [] _ hb2 h372 (Or.inl hz)]
                    rfl
              · have := hp.2 w (by rw [hw]; simp)
                obtain ⟨q1, q2, q3⟩ := g2 w hw
                refine ⟨q1, by omega, ?_⟩
                rw [show w.2.2 - a = (w.2.2 - (a + sizeL (c :: t))) + sizeL (c :: t) by omega, shift _ _ ed eg]
                exact q3

theorem front_end (N : Nat) : ∀ (L : List UInt8) (a : Nat), L.length ≤ N → ∀ w ∈ frontL L a, w.2.2 + w.2.1.length ≤ a + gl L := by
  induction N with
  | zero =>
    intro L a hl
    obtain rfl : L = [] := by cases L; rfl; simp at hl
    rw [frontL_nil]
    simp
  | succ N ih =>
    intro L a hl
    match L with
    | [] =>
      rw [frontL_nil]
      simp
    | c :: t =>
      simp only [List.length_cons] at hl
      rw [frontL_cons, gl_cons]
      by_cases hb : blankN c.toNat = true
      · rw [if_pos hb, if_pos hb]
        intro w hw
        have := ih t (a + 1) (by omega) w hw
        omega
      · rw [if_neg hb, if_neg hb]
        by_cases h37 : c.toNat = 37
        · rw [if_pos h37, if_pos h37]
          intro w hw
          have := ih (t.drop (lineL t)) (a + 1 + lineL t) (by rw [List.length_drop]; omega) w hw
          omega
        · rw [if_neg h37, if_neg h37]
          by_cases h0 : sizeL (c :: t) = 0
          · rw [if_pos (Or.inl h0)]
            simp
          · by_cases h16 : 16 < sizeL (c :: t)
            · rw [if_pos (Or.inr h16)]
              simp
            · rw [if_neg (by omega), if_neg h0, if_neg h16]
              intro w hw
              rcases List.mem_cons.1 hw with rfl | hw
              · show a + ((c :: t).take (sizeL (c :: t))).length ≤ _
                rw [List.length_take]
                omega
              · have := ih (t.drop (sizeL (c :: t) - 1)) (a + sizeL (c :: t)) (by rw [List.length_drop]; omega) w hw
                omega

end Go.Proofs.YtcfhpodpkficaaaGreatDoor.Ft
namespace Go.Proofs.YtcfhpodpkficaaaGreatDoor.Sy
open Go.RowKit
open Lx (Wd tx bs Sg scanL scanAt frontL Rw cellsW)
open Vl (Tm Fr)

theorem cell_below' {w w' : World} {p : Addr} {x : Value} (h : w.cell? p = some x) (hb : Below w.heap.size w w') : w'.cell? p = some x :=
  (World.cell?_of_block (hb.block p.block (World.block_lt_of_cell? w p h))).trans h

theorem scans_any (s : ByteArray) (w : World) (h : Sg w) (hs : s.size ≤ 4000) :
    Calls Tryz.prog 98 #[.string s] w fun e w' => e = .returned (.bool (scanL (bs s) 0).isSome) ∧ Below w.heap.size w w' := by
  have HS := hide (Lx.scan_any s w h hs)
  go_enter Tryz.func98, Tryz.ntmps98
  go_wp2_with fail
  refine Calls.mono HS.out ?_
  rintro e w1 (⟨v, L', h1, rfl, hr⟩ | ⟨h1, rfl, hb⟩)
  · have h2 : scanL (bs s) 0 = some L' := h1
    have HB := hide hr.below
    obtain ⟨ao, cap, rfl, _⟩ := hr.slice
    clear hr h1 HS
    go_wp2_with fail
    go_ret
    rw [h2]
    exact ⟨rfl, HB.out⟩
  · have h2 : scanL (bs s) 0 = none := h1
    clear h1 HS
    go_wp2_with fail
    go_ret
    rw [h2]
    exact ⟨rfl, hb⟩

/-- Has the beginning of so many bytes a fault, and the next longer one too? -/
def fP (S : List UInt8) (n : Nat) : Bool := !(scanL (S.take n) 0).isSome && !(scanL (S.take (n + 1)) 0).isSome

theorem ext_take (s : ByteArray) (n : Nat) : bs (s.extract 0 n) = (bs s).take n := by rw [Lx.bs_extract]; simp

set_option maxRecDepth 10000 in
theorem clos_any (s : ByteArray) (b n : Nat) (w : World) (h : Sg w) (hs : s.size ≤ 4000) (hn : n < s.size) (hb : w.cell? ⟨b, 0, none⟩ = some (.string s)) :
    Calls Tryz.prog 97 #[.int .i64 (n : Int), .pointer (some ⟨b, 0, none⟩)] w fun e w' => e = .returned (.bool (fP (bs s) n)) ∧ Below w.heap.size w w' := by
  have HS1 := hide (scans_any (s.extract 0 n) w h (by simp; omega))
  rw [ext_take] at HS1
  have HS2 : Hid (∀ W, Below w.heap.size w W → Calls Tryz.prog 98 #[.string (s.extract 0 (n + 1))] W fun e w' => e = .returned (.bool (scanL ((bs s).take (n + 1)) 0).isSome) ∧ Below W.heap.size W w') := fun W hW => by
    have := scans_any (s.extract 0 (n + 1)) W (h.below hW) (by simp; omega)
    rw [ext_take] at this
    exact this
  clear h
  unfold fP
  generalize (scanL ((bs s).take n) 0).isSome = b1 at *
  generalize (scanL ((bs s).take (n + 1)) 0).isSome = b2 at *
  go_enter Tryz.func97, Tryz.ntmps97
  go_wp2_with fail
  refine Calls.mono HS1.out ?_
  rintro e w1 ⟨rfl, hb1⟩
  have HB1 := hide hb1
  have k0 := (World.cell?_of_block (hb1.block b (World.block_lt_of_cell? w _ hb))).trans hb
  have HS3 := hide (HS2.out w1 hb1)
  clear HS1 HS2 hb hb1
  cases b1
  · go_wp2_with fail
    refine Calls.mono HS3.out ?_
    rintro e w2 ⟨rfl, hb2⟩
    have HB2 := hide (HB1.out.trans (hb2.mono HB1.out.size))
    clear HS3 hb2
    go_wp2_with fail
    go_ret
    exact ⟨rfl, HB2.out⟩
  · go_wp2_with fail
    go_ret
    exact ⟨rfl, HB1.out⟩

set_option maxRecDepth 10000 in
set_option maxHeartbeats 2000000 in
theorem search_any (N q : Nat) (p : Nat → Bool) (b : Nat) (w : World) (hN : N ≤ 4000) (hq : q ≤ N) (hlo : ∀ i, i < q → p i = false) (hhi : ∀ i, q ≤ i → i < N → p i = true)
    (HC : ∀ W (n : Nat), Below w.heap.size w W → n < N → Calls Tryz.prog 97 #[.int .i64 (n : Int), .pointer (some ⟨b, 0, none⟩)] W fun e w' => e = .returned (.bool (p n)) ∧ Below W.heap.size W w') :
    Calls Tryz.prog 96 #[.int .i64 (N : Int), .func (.func 97) #[] #[.pointer (some ⟨b, 0, none⟩)]] w fun e w' => e = .returned (.int .i64 (q : Int)) ∧ Below w.heap.size w w' := by
  have HC' := hide HC
  have HL := hide hlo
  have HH := hide hhi
  clear HC hlo hhi
  go_enter Tryz.func96, Tryz.ntmps96
  go_wp2_with fail
  go_loopw [5, 6] (fun x y wr => ∃ i j : Nat, x = .int .i64 i ∧ y = .int .i64 j ∧ i ≤ q ∧ q ≤ j ∧ j ≤ N ∧ Hid (Below w.heap.size w wr)) (fun x y _ => (intOf y).toNat - (intOf x).toNat)
  case atStart => exact ⟨0, N, rfl, rfl, Nat.zero_le _, hq, Nat.le_refl _, Below.refl _ _⟩
  case round =>
    obtain ⟨i, j, rfl, rfl, hi, hj, hjN, HB⟩ := hrel
    by_cases hlt : i < j
    · have hltI : (i : Int) < (j : Int) := by omega
      obtain ⟨m, hm⟩ : ∃ m : Nat, m = (i + j) / 2 := ⟨_, rfl⟩
      have hm1 : i ≤ m := by omega
      have hm2 : m < j := by omega
      have HCm := hide (HC'.out wr m HB.out (by omega))
      go_wp2_with fail
      rw [show ((i : Int) + (j : Int)) / 2 = (m : Int) by omega]
      refine Calls.mono HCm.out ?_
      rintro e w2 ⟨rfl, hb2⟩
      have HB2 := hide (HB.out.trans (hb2.mono HB.out.size))
      clear HCm hb2 HB
      cases hp : p m
      · have hmq : m < q := by
          by_cases h : m < q
          · exact h
          · have := HH.out m (by omega) (by omega)
            rw [hp] at this
            cases this
        go_wp2_with fail
        go_roundw
        case rel => exact ⟨m + 1, j, by go_num, rfl, by omega, hj, hjN, HB2⟩
        case measure => simp [intOf]; omega
      · have hmq : q ≤ m := by
          by_cases h : q ≤ m
          · exact h
          · have := HL.out m (by omega)
            rw [hp] at this
            cases this
        go_wp2_with fail
        go_roundw
        case rel => exact ⟨i, m, rfl, congrArg (Value.int .i64) (by omega), hi, hmq, by omega, HB2⟩
        case measure => simp [intOf]; omega
    · have hiq : i = q := by omega
      have hltI : ¬ (i : Int) < (j : Int) := by omega
      go_wp2_with fail
      go_ret
      first
        | exact ⟨rfl, HB.out⟩
        | (rw [hiq]; exact ⟨rfl, HB.out⟩)

set_option maxRecDepth 10000 in
theorem good_any (s : ByteArray) (w : World) (h : Sg w) (hs : s.size ≤ 4000) (hn : scanL (bs s) 0 = none) :
    Calls Tryz.prog 75 #[.string s] w fun e w' => e = .returned (.int .i64 ((Ft.gl (bs s) : Nat) : Int)) ∧ Below w.heap.size w w' := by
  obtain ⟨g1, g2, g3, g4⟩ := Ft.cut_all _ (bs s) (Nat.le_refl _) ⟨0, hn⟩
  rw [Lx.bs_length] at g1
  have hlo : ∀ i, i < Ft.gl (bs s) + 1 → fP (bs s) i = false := fun i hi => by
    unfold fP
    by_cases hlt : i < Ft.gl (bs s)
    · rcases g2 i 0 hlt with h | h <;> rw [h] <;> simp
    · have : i = Ft.gl (bs s) := by omega
      rw [this, g4]
      rfl
  have hhi : ∀ i, Ft.gl (bs s) + 1 ≤ i → i < s.size → fP (bs s) i = true := fun i h1 h2 => by
    unfold fP
    rw [g3 i 0 (by omega), g3 (i + 1) 0 (by omega)]
    rfl
  have HSr := hide (search_any s.size (Ft.gl (bs s) + 1) (fP (bs s)) w.heap.size (w.alloc (.cells #[.string s] 9)) hs (by omega) hlo hhi (fun W n hW hn => clos_any s w.heap.size n W ((h.below (Lx.below_box w _)).below hW) hs hn (cell_below' (by
    rw [cell_of_row _ _ 0 _ _ _ (heap_alloc_new _ _)]
    rfl) hW)))
  have hmf := mk_func
  clear h hn g2 g3 g4 hlo hhi
  generalize Ft.gl (bs s) = q at *
  go_enter Tryz.func75, Tryz.ntmps75
  go_wp2_with fail
  refine Calls.mono HSr.out ?_
  rintro e w1 ⟨rfl, hb⟩
  have HB := hide ((Lx.below_box w _).trans (hb.mono (by simp)))
  clear HSr hb
  go_wp2_with fail
  go_ret
  refine ⟨?_, HB.out⟩
  congr 2
end Go.Proofs.YtcfhpodpkficaaaGreatDoor.Sy
namespace Go.Proofs.YtcfhpodpkficaaaGreatDoor.Sy
open Go.RowKit
open Lx (Wd tx bs Sg scanL scanAt frontL frontAt Rw cellsW wpList_append_run)
open Vl (Tm Fr)

/-- Is it one word? -/
def oneW : Option (List Wd) → Bool
  | some L => decide (L.length = 1)
  | none => false

set_option maxRecDepth 10000 in
theorem goes_no (x : Wd) (s : ByteArray) (e : Nat) (w : World) (h : x.2.1.length < 16 ∨ x.2.2 + x.2.1.length < e) (hl : x.2.1.length ≤ 16) (he : e ≤ 4000) (hx : x.2.2 ≤ 4000) :
    Calls Tryz.prog 76 #[wv x, .string s, .int .i64 (e : Int)] w fun r w' => r = .returned (.bool false) ∧ Below w.heap.size w w' := by
  have hsz : (tx x.2.1).size = x.2.1.length := rfl
  simp only [wv]
  by_cases h1 : x.2.1.length < 16
  · have g1 : ((tx x.2.1).size : Int) < 16 := by omega
    clear h
    go_enter Tryz.func76, Tryz.ntmps76
    go_wp2_with fail
    go_ret
    exact ⟨rfl, Lx.below_box _ _⟩
  · have g1 : ¬ ((tx x.2.1).size : Int) < 16 := by omega
    have g2 : (x.2.2 : Int) + ((tx x.2.1).size : Int) < (e : Int) := by omega
    clear h
    go_enter Tryz.func76, Tryz.ntmps76
    go_wp2_with fail
    go_ret
    exact ⟨rfl, Lx.below_box _ _⟩

set_option maxRecDepth 10000 in
set_option maxHeartbeats 2000000 in
theorem goes_ask (x : Wd) (s : ByteArray) (e : Nat) (w : World) (h : Sg w) (hl : x.2.1.length = 16) (hx : x.2.2 + 16 = e) (he : e < s.size) (hs : s.size ≤ 4000) :
    Calls Tryz.prog 76 #[wv x, .string s, .int .i64 (e : Int)] w fun r w' => r = .returned (.bool (oneW (scanL ((((bs s).drop x.2.2).take 15) ++ ((bs s).drop e).take 1) 0))) ∧ Below w.heap.size w w' := by
  have hsz : (tx x.2.1).size = 16 := hl
  obtain ⟨u, hu⟩ : ∃ u, Hid (s.extract x.2.2 (e - 1) ++ s.extract e (e + 1) = u) := ⟨_, rfl⟩
  have hub : bs u = (((bs s).drop x.2.2).take 15) ++ ((bs s).drop e).take 1 := by
    rw [← hu.out]
    show (s.extract x.2.2 (e - 1) ++ s.extract e (e + 1)).data.toList = _
    rw [Vl.bytes_app]
    show bs (s.extract x.2.2 (e - 1)) ++ bs (s.extract e (e + 1)) = _
    rw [Lx.bs_extract, Lx.bs_extract, show e - 1 - x.2.2 = 15 by omega, show e + 1 - e = 1 by omega]
  have hus : u.size ≤ 4000 := by
    have : u.size = (bs u).length := rfl
    rw [this, hub]
    simp only [List.length_append, List.length_take]
    omega
  have HS : Hid (∀ W, Below w.heap.size w W → Calls Tryz.prog 62 #[.string u] W fun r w' => Lx.Sc 101 u W r w') := fun W hW => Lx.scan_any u W (h.below hW) hus
  rw [← hub]
  clear hub h
  have g1 : ¬ ((tx x.2.1).size : Int) < 16 := by omega
  have g2 : ¬ (x.2.2 : Int) + ((tx x.2.1).size : Int) < (e : Int) := by omega
  simp only [wv]
  go_enter Tryz.func76, Tryz.ntmps76
  go_wp2_with fail
  have hd : Below w.heap.size w (w.alloc (.cells #[.int .i64 (x.1 : Int), .string (tx x.2.1), .int .i64 (x.2.2 : Int)] 101)).drew := (Lx.below_box w _).drew
  have c2 : (w.alloc (.cells #[.int .i64 (x.1 : Int), .string (tx x.2.1), .int .i64 (x.2.2 : Int)] 101)).drew.cell? ⟨w.heap.size, 2, none⟩ = some (.int .i64 (x.2.2 : Int)) := (Bx.new w #[.int .i64 (x.1 : Int), .string (tx x.2.1), .int .i64 (x.2.2 : Int)] 101).three.1.2.2
  have HS1 : Hid (Calls Tryz.prog 62 #[.string u] (w.alloc (.cells #[.int .i64 (x.1 : Int), .string (tx x.2.1), .int .i64 (x.2.2 : Int)] 101)).drew fun r w' => (∃ v n, r = .returned (.tuple #[v, .int .i64 n]) ∧ ((∃ ao cap L, scanL (bs u) 0 = some L ∧ n = 0 ∧ v = .slice ao L.length cap) ∨ (scanL (bs u) 0 = none ∧ n = 4 ∧ v = .slice none 0 0))) ∧ w'.cell? ⟨w.heap.size, 2, none⟩ = some (.int .i64 (x.2.2 : Int)) ∧ Below w.heap.size w w') := by
    refine (HS.out _ hd).mono ?_
    rintro r w' (⟨v, L', h1, rfl, hr⟩ | ⟨h1, rfl, hb⟩)
    · obtain ⟨ao, cap, rfl, _⟩ := hr.slice
      exact ⟨⟨_, _, rfl, Or.inl ⟨ao, cap, L', h1, rfl, rfl⟩⟩, cell_below' c2 hr.below, hd.trans (hr.below.mono hd.size)⟩
    · exact ⟨⟨_, _, rfl, Or.inr ⟨h1, rfl, rfl⟩⟩, cell_below' c2 hb, hd.trans (hb.mono hd.size)⟩
  clear HS hd
  obtain ⟨k, hk⟩ : ∃ k, Hid (e = k + 1) := ⟨e - 1, by show e = _; omega⟩
  obtain ⟨f, hf⟩ : ∃ f, Hid (e + 1 = f) := ⟨_, rfl⟩
  have hk' := hk.out
  have hf' := hf.out
  have i1 : ((e : Int) - 1) = (k : Int) := by omega
  have i2 : IntKind.i64.wrap (k : Int) = (k : Int) := by rw [IntKind.wrap_i64]; omega
  have i3 : ((e : Int) + 1) = (f : Int) := by omega
  have i4 : IntKind.i64.wrap (f : Int) = (f : Int) := by rw [IntKind.wrap_i64]; omega
  rw [hf', show e - 1 = k by omega] at hu
  have j1 : x.2.2 ≤ k := by omega
  have j2 : k ≤ s.size := by omega
  have j3 : e ≤ f := by omega
  have j4 : f ≤ s.size := by omega
  have z1 : (s.extract x.2.2 k).size ≤ 4000 := by simp; omega
  have z2 : (s.extract e f).size ≤ 4000 := by simp; omega
  have hu' := hide hu.out
  clear hk' hf' hu hx he hl
  go_region_held (fun w' => w'.cell? ⟨w.heap.size, 2, none⟩ = some (.int .i64 (x.2.2 : Int))) (first | exact c2 | exact m0)
    (first | (go_at_call 62; rw [hu'.out]; refine Calls.mono HS1.out ?_; rintro r w2 ⟨⟨v, n, rfl, ho⟩, m0, m1⟩))
  all_goals clear HS1 c2
  all_goals (rcases ho with ⟨ao, cap, L, hL, rfl, rfl⟩ | ⟨hL, rfl, rfl⟩)
  all_goals have HL := hide hL
  all_goals clear hL
  all_goals go_wp2_with fail
  all_goals go_ret
  all_goals rw [HL.out]
  all_goals first
    | exact ⟨rfl, m1⟩
    | (refine ⟨Vl.ret_bool ?_, m1⟩
       rw [Bool.eq_iff_iff]
       simp [oneW]
       omega)

/-- What ahead gives: the words ahead of the first fault. -/
theorem front_len (S : List UInt8) : (frontL S 0).length ≤ S.length := (front_ok _ S 0 (Nat.le_refl _)).2

set_option maxRecDepth 10000 in
set_option maxHeartbeats 2000000 in
theorem ahead_any (s : ByteArray) (w : World) (h : Sg w) (hs : s.size ≤ 4000) (hn : scanL (bs s) 0 = none) :
    Calls Tryz.prog 63 #[.string s] w fun e w' => ∃ v, e = .returned v ∧ w'.ownsRow w.heap.size 101 3 v (frontL (bs s) 0).length (cellsW (frontL (bs s) 0)) ∧ Below w.heap.size w w' := by
  have HG := hide (good_any s w h hs hn)
  obtain ⟨g1, _, _, g4⟩ := Ft.cut_all _ (bs s) (Nat.le_refl _) ⟨0, hn⟩
  obtain ⟨o1, o2, o3⟩ := Ft.goes_on _ (bs s) 0 (Nat.le_refl _) ⟨0, hn⟩
  have hok := (front_ok _ (bs s) 0 (Nat.le_refl _)).1
  rw [Lx.bs_length] at g1
  have hscan : scanL (bs (s.extract 0 (Ft.gl (bs s)))) 0 = some (frontL (bs s) 0 ++ Ft.ov (bs s) 0) := by rw [ext_take]; exact g4 0
  have HSc : Hid (∀ W, Below w.heap.size w W → Calls Tryz.prog 62 #[.string (s.extract 0 (Ft.gl (bs s)))] W fun e w' => ∃ v, e = .returned (.tuple #[v, .int .i64 0]) ∧ Rw 101 W w' v (frontL (bs s) 0 ++ Ft.ov (bs s) 0)) := fun W hW => by
    refine (Lx.scan_any _ W (h.below hW) (by simp; omega)).mono ?_
    rintro e w' (⟨v, L', h1, rfl, hr⟩ | ⟨h1, _⟩)
    · have h1' : scanL (bs (s.extract 0 (Ft.gl (bs s)))) 0 = some L' := h1
      obtain rfl := Option.some.inj (hscan.symm.trans h1')
      exact ⟨v, rfl, hr⟩
    · have h1' : scanL (bs (s.extract 0 (Ft.gl (bs s)))) 0 = none := h1
      rw [hscan] at h1'
      cases h1'
  obtain ⟨F, hF⟩ : ∃ F, Hid (frontL (bs s) 0 = F) := ⟨_, rfl⟩
  obtain ⟨O, hO⟩ : ∃ O, Hid (Ft.ov (bs s) 0 = O) := ⟨_, rfl⟩
  obtain ⟨q, hq⟩ : ∃ q, Hid (Ft.gl (bs s) = q) := ⟨_, rfl⟩
  have hFO : ∀ x ∈ F, OkW x := by rw [← hF.out]; exact hok
  rw [hO.out, hF.out, hq.out] at o1
  rw [hO.out, hq.out] at o2
  rw [hO.out] at o3
  have hq1 : q < s.size := by rw [← hq.out]; exact g1
  have HGo : Hid (∀ (W : World) (x : Wd), Below w.heap.size w W → (F ++ O).getLast? = some x → x.2.2 + x.2.1.length ≤ q → Calls Tryz.prog 76 #[wv x, .string s, .int .i64 (q : Int)] W fun r w' => r = .returned (.bool (!decide (O = []))) ∧ Below W.heap.size W w') := fun W x hW hx hxq => by
    rcases o3 with ho | ⟨y, ho⟩
    · rw [ho] at hx ⊢
      rw [List.append_nil] at hx
      have hxo := hFO x (List.mem_of_getLast? hx)
      by_cases hc : x.2.1.length < 16 ∨ x.2.2 + x.2.1.length < q
      · exact goes_no x s q W hc hxo.len (by omega) (by omega)
      · have hl16 : x.2.1.length = 16 := by have := hxo.len; omega
        have hge := goes_ask x s q W (h.below hW) hl16 (by omega) hq1 hs
        have hz := o1 ho x hx hl16 (by omega)
        have hsw : Ft.swp (bs s) (x.2.2 - 0) = (((bs s).drop x.2.2).take 15) ++ ((bs s).drop q).take 1 := by rw [Ft.swp, hq.out]; rfl
        rw [hsw] at hz
        rw [hz] at hge
        exact hge
    · rw [ho] at hx ⊢
      obtain rfl : y = x := by simpa using hx
      obtain ⟨q1, q2, x1, q3⟩ := o2 y ho
      have hge := goes_ask y s q W (h.below hW) q1 (by omega) hq1 hs
      have hsw : Ft.swp (bs s) (y.2.2 - 0) = (((bs s).drop y.2.2).take 15) ++ ((bs s).drop q).take 1 := by rw [Ft.swp, hq.out]; rfl
      rw [hsw] at q3
      rw [q3] at hge
      exact hge
  have hend : ∀ x, (F ++ O).getLast? = some x → x.2.2 + x.2.1.length ≤ q := fun x hx => by
    rcases o3 with ho | ⟨y, ho⟩
    · rw [ho, List.append_nil] at hx
      have := Ft.front_end _ (bs s) 0 (Nat.le_refl _) x (by rw [hF.out]; exact List.mem_of_getLast? hx)
      rw [hq.out] at this
      omega
    · rw [ho] at hx
      obtain rfl : y = x := by simpa using hx
      obtain ⟨q1, q2, _⟩ := o2 y ho
      omega
  have hO1 : O = [] ∨ ∃ y, O = [y] := o3
  have hFl : F.length ≤ 4000 := by
    have := front_len (bs s)
    rw [hF.out, Lx.bs_length] at this
    omega
  rw [hF.out]
  rw [hq.out] at HG
  rw [hF.out, hO.out, hq.out] at HSc
  have HEnd := hide hend
  clear o1 o2 o3 hend g1 g4 hscan hok hFO hF hO hq hn h
  go_enter Tryz.func63, Tryz.ntmps63
  go_wp2_with fail
  refine Calls.mono HG.out ?_
  rintro e w1 ⟨rfl, hb1⟩
  have HB1 := hide hb1
  have HSc1 := hide (HSc.out w1 hb1)
  clear HG HSc hb1
  have hqs : q ≤ s.size := by omega
  go_wp2_with fail
  refine Calls.mono HSc1.out ?_
  rintro e w2 ⟨v, rfl, hr⟩
  have HR := hide hr
  have HB2 := hide (HB1.out.trans (hr.below.mono HB1.out.size))
  obtain ⟨ao, cap, rfl, hg⟩ := hr.slice
  clear HSc1 hr
  have hbase : w.heap.size ≤ w1.heap.size := HB1.out.size
  by_cases hz : F ++ O = []
  · have hF0 : F = [] := (List.append_eq_nil_iff.1 hz).1
    have hl0 : (F ++ O).length = 0 := by rw [hz]; rfl
    have HRow : Hid (w2.ownsRow w.heap.size 101 3 (.slice ao 0 cap) F.length (cellsW F)) := by
      have h1 := HR.out.row
      rw [hl0, hz] at h1
      rw [hF0]
      exact Vl.own_base h1 (fun k hk => by have := (h1.lt k hk).1; omega)
    rw [hl0]
    clear hg HR HGo HEnd
    go_wp2_with fail
    go_ret
    exact ⟨_, rfl, HRow.out, HB2.out⟩
  · obtain ⟨n, hn⟩ : ∃ n, (F ++ O).length = n + 1 := ⟨(F ++ O).length - 1, by have := List.length_pos_iff.2 hz; omega⟩
    obtain ⟨g, rfl⟩ := hg (by omega)
    obtain ⟨x, hx⟩ : ∃ x, (F ++ O).getLast? = some x := by
      cases hl : (F ++ O).getLast? with
      | none => exact absurd (List.getLast?_eq_none_iff.1 hl) hz
      | some x => exact ⟨x, rfl⟩
    have hxn : (F ++ O)[n]'(by omega) = x := by
      rw [List.getLast?_eq_getElem?, hn, Nat.add_sub_cancel, List.getElem?_eq_getElem (by omega)] at hx
      exact Option.some.inj hx
    have hcs := HR.out.cells n (by omega)
    rw [hxn] at hcs
    obtain ⟨k0, k1, k2⟩ := hcs
    have HGo2 := hide (HGo.out w2 x HB2.out hx (HEnd.out x hx))
    have hnl : n ≤ 4001 := by
      rcases hO1 with ho | ⟨y, ho⟩
      · rw [ho, List.append_nil] at hn; omega
      · rw [ho, List.length_append] at hn; simp at hn; omega
    have HR0 := hide HR.out.row
    rw [hn] at HR0
    simp only [wv] at HGo2
    rw [hn]
    clear HGo HEnd hx hxn hg HR
    rcases hO1 with ho | ⟨y, ho⟩
    · subst ho
      simp only [decide_true, Bool.not_true] at HGo2
      rw [List.append_nil] at hn HR0
      have HRow : Hid (w2.ownsRow w.heap.size 101 3 (.slice (some ⟨g, 0, none⟩) (n + 1) cap) F.length (cellsW F)) := by
        rw [hn]
        exact Vl.own_base HR0.out (fun k hk => by have := (HR0.out.lt k hk).1; omega)
      clear HR0
      go_wp2_with fail
      refine Calls.mono HGo2.out ?_
      rintro e w3 ⟨rfl, hb3⟩
      have HRow3 := hide (Lx.own_below HRow.out hb3)
      have HB3 := hide (HB2.out.trans (hb3.mono HB2.out.size))
      clear HGo2 hb3 HRow k0 k1 k2
      go_wp2_with fail
      go_ret
      exact ⟨_, rfl, HRow3.out, HB3.out⟩
    · subst ho
      have hd0 : (!decide ([y] = ([] : List Wd))) = true := by simp
      rw [hd0] at HGo2
      have hFn : F.length = n := by
        rw [List.length_append] at hn
        simpa using hn
      obtain ⟨hcap, HRow⟩ : n + 1 ≤ cap ∧ Hid (w2.ownsRow w.heap.size 101 3 (.slice (some ⟨g, 0, none⟩) n cap) F.length (cellsW F)) := by
        obtain ⟨h1, h2⟩ := HR0.out
        rcases h2 with ⟨h2, _⟩ | ⟨g', cap', cur, h2, h3, h4, h5, h6, h7, h8⟩
        · cases h2
        · simp only [Value.slice.injEq, Option.some.injEq, Addr.mk.injEq] at h2
          obtain ⟨⟨rfl, _, _⟩, _, rfl⟩ := h2
          refine ⟨h5, ⟨by rw [Lx.cellsW_len], .inr ⟨g, cap, cur, by rw [hFn], by omega, h4, by omega, h6, h7, ?_⟩⟩⟩
          have e1 : cur.toList.take (F.length * 3) = (cur.toList.take ((n + 1) * 3)).take (F.length * 3) := by rw [List.take_take, Nat.min_eq_left (by omega)]
          rw [e1, h8, Lx.cellsW_append, List.take_left' (Lx.cellsW_len F)]
      clear HR0
      go_wp2_with fail
      refine Calls.mono HGo2.out ?_
      rintro e w3 ⟨rfl, hb3⟩
      have HRow3 := hide (Lx.own_below HRow.out hb3)
      have HB3 := hide (HB2.out.trans (hb3.mono HB2.out.size))
      clear HGo2 hb3 HRow k0 k1 k2
      go_wp2_with fail
      go_ret
      exact ⟨_, rfl, HRow3.out, HB3.out⟩

theorem push_words {W : World} {base : Nat} {v : Value} {L : List Wd} (h : W.ownsRow base 101 3 v L.length (cellsW L)) (hb : base ≤ W.heap.size) (hl : L.length ≤ 10000) :
    ∃ g cap w3, (∀ ty, (Builtin.append_ #[77, 77] ty #[v, .slice (some ⟨W.heap.size, 0, none⟩) 1 1]).run Tryz.prog (W.alloc (.cells #[.int .i64 0, .string ⟨#[]⟩, .int .i64 0] 101)) = .ok (.slice (some ⟨g, 0, none⟩) (L.length + 1) cap) w3) ∧
      Hid (w3.ownsRow base 101 3 (.slice (some ⟨g, 0, none⟩) (L.length + 1) cap) (L ++ [(0, [], 0)]).length (cellsW (L ++ [(0, [], 0)]))) ∧ Hid (Fr (fun k => v.ownBlock = some k) W w3) := by
  obtain ⟨g, cap, w3, h1, h2, h3⟩ := push_row 77 101 3 32 _ Tryz.underlying77 Lx.Tryz.info101 rfl (by decide) (by decide) h [.int .i64 0, .string ⟨#[]⟩, .int .i64 0] rfl (by simp [Value.oneCell']) (by omega) hb
  refine ⟨g, cap, w3, h1, ?_, h3⟩
  rw [List.length_append, Lx.cellsW_append]
  exact h2

set_option maxRecDepth 10000 in
theorem words_bad (s : ByteArray) (w : World) (h : Sg w) (hs : s.size ≤ 4000) (hn : scanAt (bs s) 0 = none) :
    Calls Tryz.prog 41 #[.string s] w fun e w' => Ws s w e w' := by
  have HS := hide (Lx.scan_any s w h hs)
  have HA : Hid (∀ W, Below w.heap.size w W → Calls Tryz.prog 63 #[.string s] W fun e w' => ∃ v, e = .returned v ∧ w'.ownsRow W.heap.size 101 3 v (frontL (bs s) 0).length (cellsW (frontL (bs s) 0)) ∧ Below W.heap.size W w') := fun W hW => ahead_any s W (h.below hW) hs hn
  have e : wordsL (bs s) = frontL (bs s) 0 ++ [(0, [], 0)] := by rw [wordsL, hn]; rfl
  have hfl := front_len (bs s)
  rw [Lx.bs_length] at hfl
  unfold Ws
  rw [e]
  clear e h
  generalize frontL (bs s) 0 = F at *
  go_enter Tryz.func41, Tryz.ntmps41
  go_wp2_with fail
  refine Calls.mono HS.out ?_
  rintro e w1 (⟨v, L', h1, _⟩ | ⟨h1, rfl, hb⟩)
  · rw [hn] at h1
    cases h1
  · have HB1 := hide hb
    have HA1 := hide (HA.out w1 hb)
    clear HS HA hb h1
    go_wp2_with fail
    refine Calls.mono HA1.out ?_
    rintro e w2 ⟨v, rfl, hr, hb2⟩
    obtain ⟨_, ao, cap, rfl⟩ := own_len hr
    have hb2s := hb2.size
    obtain ⟨g, cap3, w3, hap, HO, HF⟩ := push_words hr hb2s (by omega)
    have HB3 : Hid (Below w.heap.size w w3) := by
      have h2 : Below w1.heap.size w1 w3 := hb2.trans (HF.out.below (fun k hk => (hr.lt k hk).1) hb2s)
      exact HB1.out.trans (h2.mono HB1.out.size)
    have HO3 := hide (Vl.own_base HO.out (base' := w.heap.size) (fun k hk => by
      have := (HO.out.lt k hk).1
      have := HB1.out.size
      omega))
    clear HA1 hr hb2 HO HF
    go_wp2_with (at_builtin; refine wpList_append_run _ rfl (.tmp 14) (.tmp 16) 77 77 rfl _ _ rfl rfl (hap _) ?_)
    go_ret2
    exact ⟨_, rfl, HO3.out, HB3.out⟩

theorem words_any (s : ByteArray) (w : World) (h : Sg w) (hs : s.size ≤ 4000) : Calls Tryz.prog 41 #[.string s] w fun e w' => Ws s w e w' := by
  cases hn : scanAt (bs s) 0 with
  | none => exact words_bad s w h hs hn
  | some L => exact words_good s w h hs hn
/-- What Program gives of any text. -/
theorem program_any (s : ByteArray) (w : World) (h : Sg w) (hT : Tb w) (hs : s.size ≤ 4000) : Calls Tryz.prog 9 #[.string s] w fun e w' => Pg (progL 30 (wordsL (bs s))) w e w' :=
  program_of s w hs hT (words_any s w h hs)
end Go.Proofs.YtcfhpodpkficaaaGreatDoor.Sy

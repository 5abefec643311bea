/- The reference's vars. Who is next, as the reference finds it. No walk. The kinds of the terms of rules that were read. The reference's Plan in memory. No walk. The reference's Plan. -/
import Derived.Test.YtjejpjpdfdcnlaaPart17
import Derived.Test.YtjejpjpdfdcnlaaPart12
import Derived.Laws.OwnMore
import Derived.Deep.CutBlock
namespace Go.Proofs.Ytjejpjpdfdcnlaa.Qu
open Go.RowKit
open Vl (Fr Tm)
open Sy (isTs isLs isRul Bx Rul OkR)
open Ck (TsB Nm)

theorem hasS_inS (H : List Nm) (x : Nm) : hasS H x.1 = Ck.inS H x := rfl
theorem hasS_app (H X : List Nm) (s : ByteArray) : hasS (H ++ X) s = (hasS H s || hasS X s) := by simp [hasS]
/-- What vars has found when i terms are gone through. -/
structure Va (w wr : World) (y : Value) (H X : List Nm) (ts : List Tm) (i : Nat) : Prop where
  row : Hav wr y X
  eq : H ++ X = (ts.take i).foldl addT H
  bel : Below w.heap.size w wr
  fresh : ∀ k, y.ownBlock = some k → w.heap.size + 1 ≤ k
  len : X.length ≤ i
set_option maxHeartbeats 4000000 in
theorem vars_any {w : World} {lk : Int} {ln : ByteArray} {ts : List Tm} {va v : Value} {H : List Nm} (h : isTs w ts va) (hts : ts.length ≤ 1000) (hsz : ∀ t ∈ ts, t.2.1.size ≤ maxLen) (hH : Hav w v H) (hl : H.length ≤ 10000) :
    Calls Try.prog 18 #[.agg #[.int .i64 lk, .string ln, va], v] w fun e w' => ∃ y X, e = .returned y ∧ Hav w' y X ∧ H ++ X = ts.foldl addT H ∧ Below w.heap.size w w' ∧ X.length ≤ ts.length := by
  obtain ⟨aot, capt, rfl, _, hct⟩ := TsB.of h (by omega)
  obtain ⟨W1, hW1⟩ : ∃ W1, W1 = w.alloc (.cells #[.int .i64 lk, .string ln, .slice aot ts.length capt] 27) := ⟨_, rfl⟩
  have hb1 : Below w.heap.size w W1 := by rw [hW1]; exact (Below.refl _ w).alloc (Nat.le_refl _) _
  have hn1 : W1.heap[w.heap.size]? = some (.cells #[.int .i64 lk, .string ln, .slice aot ts.length capt] 27 (0, 0)) := by rw [hW1]; exact heap_alloc_new _ _
  have HCT := hide hct
  have HB := hide hb1
  have HW1 := hide hW1
  have HH := hide hH
  have HSZ := hide hsz
  have hlI : (ts.length : Int) ≤ 1000 := by omega
  have HV0 : Hid (Va w W1 (.slice none 0 0) H [] ts 0 ∧ W1.heap[w.heap.size]? = some (.cells #[.int .i64 lk, .string ln, .slice aot ts.length capt] 27 (0, 0))) := ⟨⟨⟨by simp [strs], .inl ⟨rfl, rfl⟩⟩, by simp, hb1, (fun k hk => by cases hk), by simp⟩, hn1⟩
  clear hct hb1 hH h hW1 hn1 hsz
  go_enter Try.func18, Try.ntmps18
  go_upto_region 1 with fail
  rw [← HW1.out]
  go_wp2_with fail
  go_loopw [5, 6] (fun yv iv wr => ∃ (i : Nat) (X : List Nm), iv = .int .i64 (i : Int) ∧ i ≤ ts.length ∧ Hid (Va w wr yv H X ts i ∧ wr.heap[w.heap.size]? = some (.cells #[.int .i64 lk, .string ln, .slice aot ts.length capt] 27 (0, 0)))) (fun _ iv _ => ts.length - (intOf iv).toNat)
  case atStart => exact ⟨0, [], rfl, Nat.zero_le _, HV0⟩
  case round =>
    obtain ⟨i, X, rfl, hi, HI⟩ := hrel
    clear HV0
    have z2 : wr.cell? ⟨w.heap.size, 2, none⟩ = some (.slice aot ts.length capt) := by rw [cell_of_row _ _ 2 _ _ _ HI.out.2]; rfl
    by_cases hlt : i < ts.length
    · have hltI : (i : Int) < (ts.length : Int) := by omega
      obtain ⟨gt, off, rfl, hgt, hc⟩ := HCT.out (by omega)
      obtain ⟨t0, t1, t2⟩ := hc i hlt
      have hb := HI.out.1.bel
      have t0 := (hb.cell (p := ⟨gt, _, none⟩) hgt).trans t0
      have t1 := (hb.cell (p := ⟨gt, _, none⟩) hgt).trans t1
      have t2 := (hb.cell (p := ⟨gt, _, none⟩) hgt).trans t2
      have HFT := hide (fold_take ts H hlt)
      have hsx := HSZ.out _ (List.getElem_mem hlt)
      have HME : Hid (ts.length - (intOf (.int .i64 ((i : Int) + 1))).toNat < ts.length - (intOf (.int .i64 (i : Int))).toNat) := by
        show _ < _
        simp [intOf]
        omega
      clear hc
      generalize ts[i] = u at *
      obtain ⟨tk, tn, tz⟩ := u
      dsimp only at t0 t1 t2 hsx
      obtain ⟨U, hU⟩ : ∃ U, U = wr.alloc (.cells #[.int .i64 tk, .string tn, .int .i64 tz] 79) := ⟨_, rfl⟩
      have hbU : Below wr.heap.size wr U := by rw [hU]; exact (Below.refl _ wr).alloc (Nat.le_refl _) _
      have hnU : U.heap[wr.heap.size]? = some (.cells #[.int .i64 tk, .string tn, .int .i64 tz] 79 (0, 0)) := by rw [hU]; exact heap_alloc_new _ _
      have y0 : U.cell? ⟨wr.heap.size, 0, none⟩ = some (.int .i64 tk) := by rw [cell_of_row _ _ 0 _ _ _ hnU]; rfl
      have y1 : U.cell? ⟨wr.heap.size, 1, none⟩ = some (.string tn) := by rw [cell_of_row _ _ 1 _ _ _ hnU]; rfl
      have HVU : Hid (∀ j, H ++ X = (ts.take j).foldl addT H → X.length ≤ j → Va w U u5 H X ts j) := fun j hj hx => ⟨HI.out.1.row.below hbU, hj, HI.out.1.bel.trans (hbU.mono HI.out.1.bel.size), HI.out.1.fresh, hx⟩
      have HNU : Hid (U.heap[w.heap.size]? = some (.cells #[.int .i64 lk, .string ln, .slice (some ⟨gt, off, none⟩) ts.length capt] 27 (0, 0))) := (hbU.block w.heap.size (Array.getElem?_eq_some_iff.1 HI.out.2).1).trans HI.out.2
      have HVH := hide (HH.out.below (HI.out.1.bel.trans (hbU.mono HI.out.1.bel.size)))
      have HVX := hide (HI.out.1.row.below hbU)
      have hXl : X.length ≤ 1000 := by have := HI.out.1.len; omega
      have HXL := hide HI.out.1.len
      have HEQ := hide HI.out.1.eq
      have eU := hide hU
      have HSU : Hid (w.heap.size + 1 ≤ U.heap.size) := by
        have h1 := (Array.getElem?_eq_some_iff.1 HI.out.2).1
        have h2 := hbU.size
        show _ ≤ _
        omega
      have hfr := HI.out.1.fresh
      have HFR := hide hfr
      clear hU hbU hnU hb HI hfr
      go_upto_region 6 with fail
      rw [← eU.out]
      clear t0 t1 t2 z2
      by_cases k1 : tk = 1
      · subst k1
        have hvn : Ck.varN ((1, tn, tz) : Tm) = some ⟨tn, hsx⟩ := Ck.varN_some rfl hsx
        have HP1 := hide (place_any HVH.out (by omega) tn)
        have HP2 := hide (place_any HVX.out (by omega) tn)
        obtain ⟨b1, Hb1⟩ : ∃ b, Hid (hasS H tn = b) := ⟨_, rfl⟩
        obtain ⟨b2, Hb2⟩ : ∃ b, Hid (hasS X tn = b) := ⟨_, rfl⟩
        have HS : Hid ((b1 || b2) = true → (ts.take (i + 1)).foldl addT H = H ++ X) := fun e => by
          rw [HFT.out, ← HEQ.out]
          unfold addT
          rw [hvn]
          have : Ck.inS (H ++ X) ⟨tn, hsx⟩ = true := by rw [← hasS_inS, hasS_app, Hb1.out, Hb2.out]; exact e
          simp [addN, this]
        have HN : Hid ((b1 || b2) = false → (ts.take (i + 1)).foldl addT H = H ++ (X ++ [⟨tn, hsx⟩])) := fun e => by
          rw [HFT.out, ← HEQ.out]
          unfold addT
          rw [hvn]
          have : Ck.inS (H ++ X) ⟨tn, hsx⟩ = false := by rw [← hasS_inS, hasS_app, Hb1.out, Hb2.out]; exact e
          simp [addN, this]
        clear hvn
        cases b1 with
        | true =>
          have HE : Hid (Va w U u5 H X ts (i + 1)) := HVU.out _ (HS.out rfl).symm (by have := HXL.out; omega)
          clear HS HN HP2
          go_wp2_with fail
          refine HP1.out.mono ?_
          rintro e w2 ⟨j, rfl, j1, _, hw⟩
          have hw' := hw.symm
          subst hw'
          have hj := j1 Hb1.out
          have hj' : ¬ (j < 0) := by omega
          clear hw HP1 j1
          go_wp2_with fail
          exact ⟨⟨i + 1, X, by simp, by omega, HE.out, HNU.out⟩, HME.out⟩
        | false =>
          go_wp2_with fail
          refine HP1.out.mono ?_
          rintro e w2 ⟨j, rfl, _, j1, hw⟩
          have hw' := hw.symm
          subst hw'
          have hj := j1 Hb1.out
          clear hw HP1 j1
          cases b2 with
          | true =>
            have HE : Hid (Va w U u5 H X ts (i + 1)) := HVU.out _ (HS.out rfl).symm (by have := HXL.out; omega)
            clear HS HN
            go_wp2_with fail
            refine HP2.out.mono ?_
            rintro e w2 ⟨j, rfl, j1, _, hw⟩
            have hw' := hw.symm
            subst hw'
            have hj := j1 Hb2.out
            have hj' : ¬ (j < 0) := by omega
            clear hw HP2 j1
            go_wp2_with fail
            exact ⟨⟨i + 1, X, by simp, by omega, HE.out, HNU.out⟩, HME.out⟩
          | false =>
            have HEN := hide (HN.out rfl)
            clear HS HN
            obtain ⟨gv, cv, w3, hr, r1, r2, r3⟩ := push_row 32 9 1 16 _ Try.underlying32 Try.info9 rfl (by decide) (by decide) HVX.out [.string tn] rfl (by simp [Value.oneCell']) (by omega)
            have HE : Hid (Va w w3 (.slice (some ⟨gv, 0, none⟩) (X.length + 1) cv) H (X ++ [⟨tn, hsx⟩]) ts (i + 1) ∧ w3.heap[w.heap.size]? = some (.cells #[.int .i64 lk, .string ln, .slice (some ⟨gt, off, none⟩) ts.length capt] 27 (0, 0))) := by
              have hbU := (HVU.out i HEQ.out HXL.out).bel
              have hno : ¬ u5.ownBlock = some w.heap.size := fun e => by have := HFR.out _ e; omega
              refine ⟨⟨?_, HEN.out.symm, hbU.trans (r2.out.below (fun k hk => by have := HFR.out k hk; omega) (by have := HSU.out; omega)), fun k hk => ?_, by simp; have := HXL.out; omega⟩, (r2.out.block w.heap.size (by have := HSU.out; omega) hno).trans HNU.out⟩
              · have := r1.out
                unfold Hav
                rw [strs_snoc]
                simpa using this
              · rcases r3.out k hk with h | h
                · exact HFR.out k h
                · have := HSU.out; omega
            clear HVU
            go_wp2_with (first | (go_at_call 35; refine HP2.out.mono ?_; rintro e w2 ⟨j2, rfl, _, j3, hw⟩; have hw' := hw.symm; subst hw'; have hj2 := j3 Hb2.out; clear hw j3) | (at_builtin; refine Lx.wpList_append_run _ rfl (.tmp 37) (.tmp 40) 32 32 rfl _ _ rfl rfl (hr _) ?_))
            exact ⟨⟨i + 1, _, by simp, by omega, HE.out⟩, HME.out⟩
      · have HE : Hid (Va w U u5 H X ts (i + 1)) := HVU.out _ (by
          rw [HFT.out, ← HEQ.out]
          unfold addT
          rw [Ck.varN_none k1]) (by have := HXL.out; omega)
        have g1 : (tk == 1) = false := by simpa using k1
        go_wp2_with fail
        exact ⟨⟨i + 1, X, by simp, by omega, HE.out, HNU.out⟩, HME.out⟩
    · have hie : i = ts.length := by omega
      subst hie
      have HE : Hid (Hav wr u5 X ∧ H ++ X = ts.foldl addT H ∧ Below w.heap.size w wr ∧ X.length ≤ ts.length) := by
        have h1 := HI.out.1
        refine ⟨h1.row, ?_, h1.bel, h1.len⟩
        have := h1.eq
        rw [List.take_length] at this
        exact this
      clear HI
      go_wp2_with fail
      go_ret
      exact ⟨_, X, rfl, HE.out⟩
end Go.Proofs.Ytjejpjpdfdcnlaa.Qu
namespace Go.Proofs.Ytjejpjpdfdcnlaa.Qu
open Go.RowKit
open Vl (Fr Tm)
open Sy (isTs isLs isRul Bx Rul OkR)
open Ck (TsB Nm)

def K3 (ls : List Sy.Lit) : Prop := ∀ l ∈ ls, ∀ t ∈ l.2.2, 1 ≤ t.1 ∧ t.1 ≤ 3
def bN (H : List Nm) (l : Sy.Lit) : Nat := l.2.2.countP (bnR H)
theorem hasT_hasS (H : List Nm) (t : Tm) : hasT H t = hasS H t.2.1 := rfl
theorem bn_eq {H : List Nm} {t : Tm} (h : 1 ≤ t.1 ∧ t.1 ≤ 3) : bnR H t = bndT H t ∧ freT H t = !bnR H t := by
  unfold bnR bndT freT varB cstB
  rw [hasT_hasS]
  have hc : t.1 = 1 ∨ t.1 = 2 ∨ t.1 = 3 := by omega
  rcases hc with e | e | e <;> simp [e]
theorem count_bn {H : List Nm} : ∀ {ts : List Tm}, (∀ t ∈ ts, 1 ≤ t.1 ∧ t.1 ≤ 3) → ts.countP (bnR H) = ts.countP (bndT H) ∧ ts.countP (bnR H) + ts.countP (freT H) = ts.length
  | [], _ => ⟨rfl, rfl⟩
  | t :: ts, h => by
    obtain ⟨h1, h2⟩ := count_bn (H := H) (ts := ts) (fun u hu => h u (by simp [hu]))
    obtain ⟨e1, e2⟩ := bn_eq (H := H) (h t (by simp))
    rw [List.countP_cons, List.countP_cons, List.countP_cons, ← e1, e2, h1]
    refine ⟨rfl, ?_⟩
    rw [← h1, List.length_cons]
    cases bnR H t <;> simp <;> omega
/-- It is ready: all its variables are bound. -/
def rdy (ls : List Sy.Lit) (H : List Nm) (O : List Nat) (a : Nat) : Prop := a ∉ O ∧ ¬ (litAt ls a).1 = 1 ∧ bN H (litAt ls a) = (litAt ls a).2.2.length
/-- The first of the atoms with most bound terms, so far. -/
def Best (ls : List Sy.Lit) (H : List Nm) (O : List Nat) (i : Nat) (at' most : Int) : Prop :=
  (at' = -1 ∧ most = -1 ∧ ∀ a, a < i → a ∉ O → ¬ (litAt ls a).1 = 1) ∨
  (∃ p : Nat, at' = (p : Int) ∧ p < i ∧ p ∉ O ∧ (litAt ls p).1 = 1 ∧ most = (bN H (litAt ls p) : Int) ∧ ∀ a, a < i → a ∉ O → (litAt ls a).1 = 1 → bN H (litAt ls a) ≤ bN H (litAt ls p) ∧ (bN H (litAt ls a) = bN H (litAt ls p) → p ≤ a))
theorem Best.zero (ls : List Sy.Lit) (H : List Nm) (O : List Nat) : Best ls H O 0 (-1) (-1) := .inl ⟨rfl, rfl, fun _ ha => absurd ha (Nat.not_lt_zero _)⟩
theorem Best.skip {ls : List Sy.Lit} {H : List Nm} {O : List Nat} {i : Nat} {a m : Int} (h : Best ls H O i a m) (hi : i ∉ O → ¬ (litAt ls i).1 = 1) : Best ls H O (i + 1) a m := by
  rcases h with ⟨h1, h2, h3⟩ | ⟨p, h1, h2, h3, h4, h5, h6⟩
  · refine .inl ⟨h1, h2, fun b hb ho => ?_⟩
    by_cases e : b = i
    · subst e; exact hi ho
    · exact h3 b (by omega) ho
  · refine .inr ⟨p, h1, by omega, h3, h4, h5, fun b hb ho hk => ?_⟩
    by_cases e : b = i
    · subst e; exact absurd hk (hi ho)
    · exact h6 b (by omega) ho hk
theorem Best.take {ls : List Sy.Lit} {H : List Nm} {O : List Nat} {i : Nat} {a m : Int} (h : Best ls H O i a m) (ho : i ∉ O) (hk : (litAt ls i).1 = 1) (hm : m < (bN H (litAt ls i) : Int)) : Best ls H O (i + 1) (i : Int) (bN H (litAt ls i) : Int) := by
  refine .inr ⟨i, rfl, by omega, ho, hk, rfl, fun b hb hbo hbk => ?_⟩
  by_cases e : b = i
  · subst e; exact ⟨Nat.le_refl _, fun _ => Nat.le_refl _⟩
  · rcases h with ⟨_, _, h3⟩ | ⟨p, _, _, _, _, h5, h6⟩
    · exact absurd hbk (h3 b (by omega) hbo)
    · have := (h6 b (by omega) hbo hbk).1
      rw [h5] at hm
      exact ⟨by omega, fun e => by omega⟩
theorem Best.keep {ls : List Sy.Lit} {H : List Nm} {O : List Nat} {i : Nat} {a m : Int} (h : Best ls H O i a m) (ho : i ∉ O) (hk : (litAt ls i).1 = 1) (hm : ¬ m < (bN H (litAt ls i) : Int)) : Best ls H O (i + 1) a m := by
  rcases h with ⟨_, h2, _⟩ | ⟨p, h1, h2, h3, h4, h5, h6⟩
  · omega
  · refine .inr ⟨p, h1, by omega, h3, h4, h5, fun b hb hbo hbk => ?_⟩
    by_cases e : b = i
    · subst e; rw [h5] at hm; exact ⟨by omega, fun _ => by omega⟩
    · exact h6 b (by omega) hbo hbk
structure Lok (ls : List Sy.Lit) : Prop where
  k3 : K3 ls
  kind : ∀ l ∈ ls, 1 ≤ l.1 ∧ l.1 ≤ 6
theorem turn_of {ls : List Sy.Lit} (hL : Lok ls) {H : List Nm} {a : Nat} (ha : a < ls.length) : ((litAt ls a).1 = 1 → turnN (gOf ls H a).kind (gOf ls H a).free = 1) ∧ (¬ (litAt ls a).1 = 1 → bN H (litAt ls a) = (litAt ls a).2.2.length → turnN (gOf ls H a).kind (gOf ls H a).free = 0) ∧ (¬ (litAt ls a).1 = 1 → ¬ bN H (litAt ls a) = (litAt ls a).2.2.length → turnN (gOf ls H a).kind (gOf ls H a).free = 2) ∧ (gOf ls H a).bound = (bN H (litAt ls a) : Int) := by
  have hm : litAt ls a ∈ ls := by rw [litAt_get ha]; exact List.getElem_mem ha
  obtain ⟨c1, c2⟩ := count_bn (H := H) (hL.k3 _ hm)
  have hk := hL.kind _ hm
  unfold gOf kdL turnN bN
  dsimp only
  refine ⟨fun e => by rw [if_pos e], fun e h => ?_, fun e h => ?_, by rw [c1]⟩
  · rw [if_neg e, if_pos ⟨by omega, by omega⟩]
  · rw [if_neg e, if_neg (fun hh => h (by omega))]
theorem pick_ready {ls : List Sy.Lit} (hL : Lok ls) {H : List Nm} {O : List Nat} {p : Nat} (hp : p < ls.length) (hr : rdy ls H O p) (hf : ∀ a, a < p → ¬ rdy ls H O a) : Pick ls H O p := by
  refine ⟨hp, hr.1, fun a ha ho => ?_⟩
  obtain ⟨_, p2, _, _⟩ := turn_of hL (H := H) hp
  have tp := p2 hr.2.1 hr.2.2
  obtain ⟨a1, a2, a3, _⟩ := turn_of hL (H := H) ha
  unfold ltK kyOf
  dsimp only
  rw [tp]
  by_cases k1 : (litAt ls a).1 = 1
  · rw [a1 k1]; simp
  · by_cases k2 : bN H (litAt ls a) = (litAt ls a).2.2.length
    · rw [a2 k1 k2]
      have : ¬ a < p := fun h => hf a h ⟨ho, k1, k2⟩
      simp
      omega
    · rw [a3 k1 k2]; simp
theorem pick_best {ls : List Sy.Lit} (hL : Lok ls) {H : List Nm} {O : List Nat} {p : Nat} {m : Int} (hb : Best ls H O ls.length (p : Int) m) (hf : ∀ a, a < ls.length → ¬ rdy ls H O a) : Pick ls H O p := by
  rcases hb with ⟨h1, _⟩ | ⟨p', h1, h2, h3, h4, h5, h6⟩
  · omega
  · have e : p' = p := by omega
    subst e
    refine ⟨h2, h3, fun a ha ho => ?_⟩
    obtain ⟨p1, _, _, p4⟩ := turn_of hL (H := H) h2
    obtain ⟨a1, a2, a3, a4⟩ := turn_of hL (H := H) ha
    unfold ltK kyOf
    dsimp only
    rw [p1 h4]
    by_cases k1 : (litAt ls a).1 = 1
    · rw [a1 k1, a4, p4]
      have h7 := h6 a ha ho k1
      rw [if_pos rfl]
      by_cases e : bN H (litAt ls a) = bN H (litAt ls p')
      · rw [if_neg (fun h => h.2 (by rw [e]))]
        have := h7.2 e
        simp
        omega
      · rw [if_pos ⟨rfl, fun h => e (by omega)⟩]
        simp
        omega
    · by_cases k2 : bN H (litAt ls a) = (litAt ls a).2.2.length
      · exact absurd ⟨ho, k1, k2⟩ (hf a ha)
      · rw [a3 k1 k2]; simp

/-- The variables of the atoms that are taken are bound. -/
def Cov (ls : List Sy.Lit) (O : List Nat) (H : List Nm) : Prop := ∀ b ∈ O, (litAt ls b).1 = 1 → ∀ t ∈ (litAt ls b).2.2, t.1 = 1 → hasS H t.2.1 = true
theorem hasS_addN {H : List Nm} {s : ByteArray} (x : Nm) (h : hasS H s = true) : hasS (addN H x) s = true := by
  unfold addN
  split
  · exact h
  · rw [hasS_app, h]; rfl
theorem hasS_addT {H : List Nm} {s : ByteArray} (t : Tm) (h : hasS H s = true) : hasS (addT H t) s = true := by
  unfold addT
  split
  · exact hasS_addN _ h
  · exact h
theorem hasS_fold {s : ByteArray} : ∀ (ts : List Tm) {H : List Nm}, hasS H s = true → hasS (ts.foldl addT H) s = true
  | [], _, h => h
  | t :: ts, _, h => hasS_fold ts (hasS_addT t h)
theorem fold_has : ∀ (ts : List Tm) (H : List Nm), (∀ t ∈ ts, t.2.1.size ≤ maxLen) → ∀ t ∈ ts, t.1 = 1 → hasS (ts.foldl addT H) t.2.1 = true
  | [], _, _, t, ht, _ => by cases ht
  | u :: ts, H, hs, t, ht, hk => by
    rw [List.foldl_cons]
    rcases List.mem_cons.1 ht with e | e
    · subst e
      refine hasS_fold ts ?_
      have hv := Ck.varN_some hk (hs t (by simp))
      unfold addT
      rw [hv]
      show hasS (addN H ⟨t.2.1, hs t (by simp)⟩) t.2.1 = true
      unfold addN
      split
      · rename_i h; exact h
      · rw [hasS_app]; simp [hasS]
    · exact fold_has ts (addT H u) (fun x hx => hs x (by simp [hx])) t e hk
theorem Cov.step {ls : List Sy.Lit} {O : List Nat} {H : List Nm} {p : Nat} (h : Cov ls O H) (hs : ∀ t ∈ (litAt ls p).2.2, t.2.1.size ≤ maxLen) : Cov ls (O ++ [p]) (takeH H (litAt ls p)) := by
  intro b hb hk t ht h1
  unfold takeH
  rcases List.mem_append.1 hb with e | e
  · have := h b e hk t ht h1
    split
    · exact hasS_fold _ this
    · exact this
  · have e : b = p := by simpa using e
    subst e
    rw [if_pos hk]
    exact fold_has _ _ hs t ht h1
theorem fold_none : ∀ (ts : List Tm) (H : List Nm), (∀ t ∈ ts, t.1 = 1 → hasS H t.2.1 = true) → ts.foldl addT H = H
  | [], _, _ => rfl
  | t :: ts, H, h => by
    have e : addT H t = H := by
      unfold addT
      cases hv : Ck.varN t with
      | none => rfl
      | some x =>
        have h1 : t.1 = 1 ∧ x.1 = t.2.1 := by
          unfold Ck.varN at hv
          split at hv
          · rename_i hc; cases hv; exact ⟨hc.1, rfl⟩
          · cases hv
        have := h t (by simp) h1.1
        rw [← h1.2, hasS_inS] at this
        simp [addN, this]
    rw [List.foldl_cons, e]
    exact fold_none ts H (fun u hu => h u (by simp [hu]))
/-- Of a literal that is taken, what is new are its variables, whatever it is. -/
theorem fold_pick {ls : List Sy.Lit} {H : List Nm} {p : Nat} (h : (litAt ls p).1 = 1 ∨ bN H (litAt ls p) = (litAt ls p).2.2.length) : (litAt ls p).2.2.foldl addT H = takeH H (litAt ls p) := by
  unfold takeH
  split
  · rfl
  · rename_i hk
    rcases h with h | h
    · exact absurd h hk
    · refine fold_none _ _ fun t ht h1 => ?_
      have := List.countP_eq_length.1 h t ht
      simpa [bnR, h1] using this
/-- Of a safe rule there is always one that is ready, or an atom. -/
theorem some_next {q : Rul} (hs : Ck.refSafe q = true) {O : List Nat} {H : List Nm} (hC : Cov q.2 O H) (hlen : O.length < q.2.length) (hr : ∀ a, a < q.2.length → ¬ rdy q.2 H O a) : ∃ a, a < q.2.length ∧ a ∉ O ∧ (litAt q.2 a).1 = 1 := by
  refine Classical.byContradiction fun hno => ?_
  have hna : ∀ a, a < q.2.length → a ∉ O → ¬ (litAt q.2 a).1 = 1 := fun a h1 h2 h3 => hno ⟨a, h1, h2, h3⟩
  have hex : ∃ a, a < q.2.length ∧ a ∉ O := by
    refine Classical.byContradiction fun hall => ?_
    have hsub : List.range q.2.length ⊆ O := fun a ha => Classical.byContradiction fun ho => hall ⟨a, List.mem_range.1 ha, ho⟩
    have := List.Nodup.length_le_of_subset (List.nodup_range (n := q.2.length)) hsub
    simp at this
    omega
  obtain ⟨a, ha, ho⟩ := hex
  have hk := hna a ha ho
  have hm : litAt q.2 a ∈ q.2 := by rw [litAt_get ha]; exact List.getElem_mem ha
  have hnr : ¬ bN H (litAt q.2 a) = (litAt q.2 a).2.2.length := fun e => hr a ha ⟨ho, hk, e⟩
  have hnr2 : ¬ ∀ t ∈ (litAt q.2 a).2.2, bnR H t = true := fun h => hnr (List.countP_eq_length.2 h)
  refine hnr2 fun t ht => Classical.byContradiction fun hb => ?_
  have hb : bnR H t = false := by simpa using hb
  simp [bnR] at hb
  have h1 := hs
  unfold Ck.refSafe at h1
  simp only [Bool.and_eq_true, List.all_eq_true] at h1
  have h2 := h1.2 _ hm
  unfold Ck.okL at h2
  simp [hk] at h2
  have h3 := h2 t.1 t.2.1 t.2.2 ht
  unfold Ck.okT at h3
  simp [hb.1] at h3
  unfold Ck.bindsB at h3
  rw [List.any_eq_true] at h3
  obtain ⟨l, hl, h4⟩ := h3
  unfold Ck.bindL at h4
  simp only [Bool.and_eq_true, decide_eq_true_eq, List.any_eq_true] at h4
  obtain ⟨h5, u, hu, h6⟩ := h4
  unfold Ck.bindT at h6
  simp only [Bool.and_eq_true, decide_eq_true_eq, beq_iff_eq] at h6
  obtain ⟨b, hb1, rfl⟩ := List.getElem_of_mem hl
  have hbO : b ∈ O := Classical.byContradiction fun h => hna b hb1 h (by rw [litAt_get hb1]; exact h5)
  have h7 := hC b hbO (by rw [litAt_get hb1]; exact h5) u (by rw [litAt_get hb1]; exact hu) h6.1
  have e : hasS H t.2.1 = hasS H u.2.1 := by
    unfold hasS
    rw [← Ck.toL, ← Ck.toL, h6.2]
  rw [e, h7] at hb
  cases hb.2
end Go.Proofs.Ytjejpjpdfdcnlaa.Qu
namespace Go.Proofs.Ytjejpjpdfdcnlaa.Sy
open Go.RowKit
open Lx (Wd tx bs scanAt frontAt)
open Vl (Tm)

def Kt (t : Tm) : Prop := 1 ≤ t.1 ∧ t.1 ≤ 3
def Kl (l : Lit) : Prop := ∀ t ∈ l.2.2, Kt t
theorem term_k {x : Wd} {t : Tm} (h : termW x = some t) : Kt t := by
  unfold termW at h
  split at h
  · cases h
    exact ⟨by simp, by simp⟩
  · unfold constW at h
    split at h
    · cases h
      exact ⟨by simp, by simp⟩
    · split at h
      · split at h
        · cases h
          exact ⟨by simp, by simp⟩
        · cases h
      · cases h
theorem termL_k {ws : List Wd} {t : Tm} {r : List Wd} (hw : Sh ws) (h : oneL termW ws = .ok (t, r)) : Kt t ∧ Sh r := by
  refine ⟨?_, (termL_ok hw h).2⟩
  unfold oneL at h
  cases hf : termW (nextW ws) with
  | none => rw [hf] at h; cases h
  | some u =>
    rw [hf] at h
    cases h
    exact term_k hf
theorem atomL_k {ws : List Wd} {l : Lit} {r : List Wd} (hw : Sh ws) (h : atomL termW ws = .ok (l, r)) : Kl l ∧ Sh r := by
  refine ⟨?_, (atomL_ok hw h).2.2⟩
  unfold atomL at h
  split at h
  · split at h
    · split at h
      · cases h
      · rename_i l' r' hl
        split at h
        · cases h
          obtain ⟨h1, h2, h3⟩ := listL_ok (P := Kt) (fun ws x r hw h => termL_k hw h) 4 _ _ _ hw.tail.tail hl
          exact h2
        · cases h
    · cases h
      intro t ht
      simp at ht
  · cases h
theorem cmpL_k {ws : List Wd} {l : Lit} {r : List Wd} (hw : Sh ws) (h : cmpL ws = .ok (l, r)) : Kl l ∧ Sh r := by
  refine ⟨?_, (cmpL_ok hw h).2⟩
  unfold cmpL at h
  split at h
  · cases h
  · rename_i a t ha
    split at h
    · cases h
    · rename_i hk
      split at h
      · cases h
      · rename_i b r' hb
        cases h
        obtain ⟨h1, h2⟩ := termL_k hw ha
        obtain ⟨h3, h4⟩ := termL_k h2.tail hb
        intro y hy
        rcases List.mem_cons.1 hy with rfl | hy
        · exact h1
        · rw [List.mem_singleton.1 hy]; exact h3
theorem litL_k {ws : List Wd} {l : Lit} {r : List Wd} (hw : Sh ws) (h : litL ws = .ok (l, r)) : Kl l ∧ Sh r := by
  refine ⟨?_, (litL_ok hw h).2⟩
  unfold litL at h
  split at h
  · split at h
    · cases h
    · rename_i l' r' hl
      cases h
      exact (atomL_k hw.tail hl).1
  · split at h
    · exact (atomL_k hw h).1
    · exact (cmpL_k hw h).1
theorem clauseL_k {ws : List Wd} {q : Rul} {r : List Wd} (hw : Sh ws) (h : clauseL ws = .ok (q, r)) : (∀ l ∈ q.2, Kl l) ∧ Sh r := by
  refine ⟨?_, (clauseL_ok hw h).2.2⟩
  unfold clauseL at h
  split at h
  · cases h
  · rename_i hd t hh
    obtain ⟨h1, h3⟩ := atomL_k hw hh
    split at h
    · split at h
      · cases h
      · rename_i b r' hb
        split at h
        · cases h
          obtain ⟨k1, k2, k3⟩ := listL_ok (P := Kl) (fun ws x r hw h => litL_k hw h) 6 _ _ _ h3.tail hb
          exact k2
        · cases h
    · split at h
      · cases h
        intro l hl
        simp at hl
      · cases h
theorem progL_k : ∀ (n : Nat) (ws : List Wd) (l : List Rul), Sh ws → progL n ws = .ok l → ∀ q ∈ l, ∀ b ∈ q.2, Kl b := by
  intro n
  induction n with
  | zero =>
    intro ws l hw h
    cases ws with
    | nil => cases h; simp
    | cons x r =>
      unfold progL at h
      split at h <;> cases h
  | succ n ih =>
    intro ws l hw h
    cases ws with
    | nil => cases h; simp
    | cons x t =>
      unfold progL at h
      split at h
      · cases h
      · rename_i c r hc
        obtain ⟨h1, h3⟩ := clauseL_k hw hc
        split at h
        · cases h
        · rename_i l' hl
          cases h
          have k2 := ih _ _ h3 hl
          intro q hq
          rcases List.mem_cons.1 hq with rfl | hq
          · exact h1
          · exact k2 q hq
end Go.Proofs.Ytjejpjpdfdcnlaa.Sy
namespace Go.Proofs.Ytjejpjpdfdcnlaa.Ck
open Sy Lx
theorem read_k (s : ByteArray) : ∀ q ∈ rulesS s, ∀ b ∈ q.2, Kl b := by
  unfold rulesS
  have hw := Sh.of (words_ok (bs (Lx.cutS s 1200))).1
  cases h : progL 30 (wordsL (bs (Lx.cutS s 1200))) with
  | error e => simp [okRs]
  | ok l => exact progL_k 30 _ l hw h
end Go.Proofs.Ytjejpjpdfdcnlaa.Ck
namespace Go.Proofs.Ytjejpjpdfdcnlaa.Qu
open Go.RowKit
open Vl (Fr Tm)
open Sy (isTs isLs isRul Bx Rul OkR)
open Ck (TsB Nm)

theorem Try.info4 : (Try.prog.info? 4).map (fun i => (i.zero, i.size, i.bytes)) = some (some (.bool false), 1, 1) := by kernel_rfl
def usedR (n : Nat) (U : List Nat) : Array Value := ((List.range n).map fun a => .bool (decide (a ∈ U))).toArray
theorem usedR_get {n : Nat} (U : List Nat) {a : Nat} (h : a < n) : (usedR n U)[a]? = some (.bool (decide (a ∈ U))) := by simp [usedR, h]
theorem usedR_set (n : Nat) (U : List Nat) (p : Nat) : (usedR n U).setIfInBounds p (.bool true) = usedR n (U ++ [p]) := by
  apply Array.ext_getElem?
  intro a
  rw [Array.getElem?_setIfInBounds]
  by_cases ha : a < n
  · rw [usedR_get _ ha, usedR_get _ ha]
    by_cases e : p = a
    · subst e
      simp [usedR, ha]
    · rw [if_neg e]
      simp [Ne.symm e]
  · have h1 : (usedR n U).size = n := by simp [usedR]
    have h2 : (usedR n (U ++ [p])).size = n := by simp [usedR]
    rw [Array.getElem?_eq_none (xs := usedR n (U ++ [p])) (by omega), Array.getElem?_eq_none (xs := usedR n U) (by omega)]
    split
    · rw [if_neg (by omega)]
    · rfl
theorem made_used (n : Nat) : madeCells (Value.bool false).cells n = usedR n [] := by
  apply Array.ext_getElem?
  intro j
  by_cases hj : j < n
  · simp [madeCells, usedR, hj, Value.cells, Nat.mod_one]
  · simp [madeCells, usedR, hj]
theorem make_used (n : Nat) (hn : n ≤ 1000) (W : World) : (Instr.makeSlice 57 (.int .i64 (n : Int)) (.int .i64 (n : Int))).run Try.prog W = .ok (.slice (some ⟨W.heap.size, 0, none⟩) n n) (W.alloc (.cells (usedR n []) 4)) := by
  obtain ⟨i, hi, hz, hsize, hby⟩ := info_parts Try.info4
  have h := run_make (P := Try.prog) W 57 4 i (.bool false) Try.underlying57 hi hz .i64 .i64 (n : Int) (n : Int) (by omega) (by omega) (by rw [hby]; omega) (by omega)
  rw [hsize, Nat.mul_one] at h
  simp only [Int.toNat_natCast] at h
  rw [made_used] at h
  exact h

/-- The order, what is bound, and who is used. -/
structure Rt (w2 wr : World) (n ub : Nat) (ov hv : Value) (O U : List Nat) (H : List Nm) : Prop where
  o : wr.ownsRow 0 3 1 ov O.length (O.map num)
  h : Hav wr hv H
  u : wr.heap[ub]? = some (.cells (usedR n U) 4 (0, 0))
  bel : Below w2.heap.size w2 wr
  lo : ∀ k, ov.ownBlock = some k → w2.heap.size ≤ k
  lh : ∀ k, hv.ownBlock = some k → w2.heap.size ≤ k
  lu : w2.heap.size ≤ ub
variable {w2 wr wr' : World} {n ub : Nat} {ov hv : Value} {O U : List Nat} {H : List Nm}
theorem Rt.below (h : Rt w2 wr n ub ov hv O U H) (hb : Below wr.heap.size wr wr') : Rt w2 wr' n ub ov hv O U H :=
  ⟨Lx.own_below h.o hb, h.h.below hb, (hb.block ub (Array.getElem?_eq_some_iff.1 h.u).1).trans h.u, h.bel.trans (hb.mono h.bel.size), h.lo, h.lh, h.lu⟩
theorem Rt.push (h : Rt w2 wr n ub ov hv O U H) (p : Nat) (hO : O.length ≤ 1000) :
    ∃ g cap w3, (∀ ty, (Builtin.append_ #[31, 31] ty #[ov, .slice (some ⟨wr.heap.size, 0, none⟩) 1 1]).run Try.prog (wr.alloc (.cells #[.int .i64 (p : Int)] 3)) = .ok (.slice (some ⟨g, 0, none⟩) (O.length + 1) cap) w3) ∧ Hid (Rt w2 w3 n ub (.slice (some ⟨g, 0, none⟩) (O.length + 1) cap) hv (O ++ [p]) U H) := by
  obtain ⟨g, cap, w3, hr, k1, k2, k3⟩ := push_row 31 3 1 8 _ Try.underlying31 Try.info3 rfl (by decide) (by decide) h.o [.int .i64 (p : Int)] rfl (by simp [Value.oneCell']) (by omega)
  refine ⟨g, cap, w3, hr, ?_, own_of_cell h.h k2.out (fun k hk => Vl.own_ne h.o h.h (by decide) hk), (k2.out.block ub (Array.getElem?_eq_some_iff.1 h.u).1 (own_ty h.o h.u (by decide))).trans h.u, h.bel.trans (k2.out.below h.lo h.bel.size), fun k hk => ?_, h.lh, h.lu⟩
  · have e : O.map num ++ [.int .i64 (p : Int)] = (O ++ [p]).map num := by simp [num]
    have := k1.out
    rw [e] at this
    simpa using this
  · rcases k3.out k hk with h5 | h5
    · exact h.lo k h5
    · exact Nat.le_trans h.bel.size h5
theorem Rt.mark (h : Rt w2 wr n ub ov hv O U H) (p : Nat) : Rt w2 (wr.setCell ⟨ub, p, none⟩ (.bool true)) n ub ov hv O (U ++ [p]) H := by
  have hf : Fr (fun k => k = ub) wr (wr.setCell ⟨ub, p, none⟩ (.bool true)) := Vl.Fr.one _ _ _ _
  refine ⟨own_of_cell h.o hf (fun k hk => by rw [hk]; exact own_ty h.o h.u (by decide)), own_of_cell h.h hf (fun k hk => by rw [hk]; exact own_ty h.h h.u (by decide)), ?_, h.bel.trans (hf.below (fun k hk => by rw [hk]; exact h.lu) h.bel.size), h.lo, h.lh, h.lu⟩
  rw [Vl.heap_set h.u, usedR_set]
theorem strs_app (H X : List Nm) : strs (H ++ X) = strs H ++ strs X := by simp [strs]
theorem Rt.app (h : Rt w2 wr n ub ov hv O U H) {y : Value} {X : List Nm} (hy : Hav wr y X) (hH : H.length ≤ 1000) (hX : X.length ≤ 1000) :
    ∃ v' w3, (∀ ty, (Builtin.append_ #[32, 32] ty #[hv, y]).run Try.prog wr = .ok v' w3) ∧ Hid (Rt w2 w3 n ub ov v' O U (H ++ X)) := by
  obtain ⟨i, hi, hz, hsize, hby⟩ := info_parts Try.info9
  rcases hy.2 with ⟨rfl, h0⟩ | ⟨gy, cy, cur, rfl, _, hgy, hn, hc, hs, ht⟩
  · have e : X = [] := List.length_eq_zero_iff.1 h0
    subst e
    refine ⟨hv, wr, fun ty => run_append_owned_none wr 0 32 ty 9 i 1 Try.underlying32 hi hv H.length (strs H) h.h, ?_⟩
    rw [List.append_nil]
    exact h
  · have HA := fun ty => run_append_own_at (P := Try.prog) wr 0 32 ty 9 i _ 1 16 Try.underlying32 hi hz hsize hby rfl (by decide) hv H.length (strs H) h.h ⟨gy, 0, none⟩ X.length cy (strs X) (by simp [strs]) (fun j u hj => by
      rw [Addr.add_lit, Nat.zero_add, cell_of_row _ _ j _ _ _ hgy]
      rw [← ht, List.getElem?_take] at hj
      split at hj
      · rw [← Array.getElem?_toList]; exact hj
      · cases hj) (fun u hu => by
      simp [strs] at hu
      obtain ⟨a, b, _, rfl⟩ := hu
      rfl) (by simp only [maxLen]; omega) (by omega) (by simp)
    obtain ⟨v', w', hr, g1, g2, _, g4⟩ := HA 0
    have hf : Fr (fun k => hv.ownBlock = some k) wr w' := Vl.Fr.of_grown (F := fun k => hv.ownBlock = some k) g2 (fun k hk => hk)
    refine ⟨v', w', fun ty => hr, own_of_cell h.o hf (fun k hk => Vl.own_ne h.h h.o (by decide) hk), ?_, (hf.block ub (Array.getElem?_eq_some_iff.1 h.u).1 (own_ty h.h h.u (by decide))).trans h.u, h.bel.trans (hf.below h.lh h.bel.size), h.lo, fun k hk => ?_, h.lu⟩
    · unfold Hav
      rw [strs_app, List.length_append]
      exact g1
    · rcases g4 with g4 | g4
      · exact h.lh k (by rw [← g4]; exact hk)
      · rw [hk] at g4
        simp at g4
        have := h.bel.size
        omega
theorem Rt.uc (h : Rt w2 wr n ub ov hv O U H) {a : Nat} (ha : a < n) : wr.cell? ⟨ub, a, none⟩ = some (.bool (decide (a ∈ U))) := by
  rw [cell_of_row _ _ a _ _ _ h.u]
  exact usedR_get U ha
theorem Rt.uf (h : Rt w2 wr n ub ov hv O U H) (a : Nat) : wr.frozen? ⟨ub, a, none⟩ = false := frozen_of_row wr ub a _ _ h.u
end Go.Proofs.Ytjejpjpdfdcnlaa.Qu
namespace Go.Proofs.Ytjejpjpdfdcnlaa.Qu
open Go.RowKit
open Vl (Fr Tm)
open Sy (isTs isLs isRul Bx Rul OkR)
open Ck (TsB Nm)

/-- The reference's Plan under way. -/
def Rw (w2 wr : World) (ls : List Sy.Lit) (first : Int) (ub : Nat) (ov hv : Value) (O : List Nat) (H : List Nm) : Prop :=
  Rt w2 wr ls.length ub ov hv O O H ∧ (∃ O0 H0, Begins ls first O0 H0 ∧ Tr ls O0 H0 O H) ∧ Cov ls O H ∧ H.length ≤ 4 * O.length ∧ O.length ≤ ls.length
theorem Rw.below {w2 wr wr' : World} {ls : List Sy.Lit} {first : Int} {ub : Nat} {ov hv : Value} {O : List Nat} {H : List Nm} (h : Rw w2 wr ls first ub ov hv O H) (hb : Below wr.heap.size wr wr') : Rw w2 wr' ls first ub ov hv O H := ⟨h.1.below hb, h.2⟩
structure Lt (w2 : World) (ls : List Sy.Lit) (gb p : Nat) (va : Value) : Prop where
  ts : isTs w2 (litAt ls p).2.2 va
  l0 : w2.cell? ⟨gb, p * 3, none⟩ = some (.int .i64 (litAt ls p).1)
  l1 : w2.cell? ⟨gb, p * 3 + 1, none⟩ = some (.string (litAt ls p).2.1)
  l2 : w2.cell? ⟨gb, p * 3 + 2, none⟩ = some va
  lt : gb < w2.heap.size
theorem lit_at {w2 : World} {ls : List Sy.Lit} {gb cap : Nat} (h : isLs w2 ls (.slice (some ⟨gb, 0, none⟩) ls.length cap)) {p : Nat} (hp : p < ls.length) : ∃ va, Lt w2 ls gb p va := by
  obtain ⟨g, e, hc⟩ := (Sy.isLs_cells h).2 (by omega)
  simp only [Option.some.injEq, Addr.mk.injEq, and_true] at e
  subst e
  obtain ⟨va, h1, h2, h3, h4⟩ := hc p hp
  rw [← litAt_get hp] at h1 h2 h3
  exact ⟨va, h1, h2, h3, h4, World.block_lt_of_cell? w2 _ h2⟩
theorem rvars {w2 wr : World} {ls : List Sy.Lit} {ub : Nat} {ov hv va : Value} {O : List Nat} {H : List Nm} {gb p : Nat} (h : Rt w2 wr ls.length ub ov hv O O H) (hb : Bd ls) (hl : Lt w2 ls gb p va) (hf : (litAt ls p).2.2.foldl addT H = takeH H (litAt ls p)) (hH : H.length ≤ 900) (hsz : ∀ t ∈ (litAt ls p).2.2, t.2.1.size ≤ maxLen) :
    Calls Try.prog 18 #[.agg #[.int .i64 (litAt ls p).1, .string (litAt ls p).2.1, va], hv] wr fun e w6 => ∃ y, e = .returned y ∧ ∃ v' w7, (∀ ty, (Builtin.append_ #[32, 32] ty #[hv, y]).run Try.prog w6 = .ok v' w7) ∧ Hid (Rt w2 w7 ls.length ub ov v' O O (takeH H (litAt ls p))) := by
  refine (vars_any (Sy.isTs_below hl.ts h.bel) (by have := hb.at p; omega) hsz h.h (by omega)).mono ?_
  rintro e w6 ⟨y, X, rfl, q1, q2, q3, q4⟩
  obtain ⟨v', w7, hr, k⟩ := (h.below q3).app q1 (by omega) (by have := hb.at p; omega)
  refine ⟨y, rfl, v', w7, hr, ?_⟩
  rw [← hf, ← q2]
  exact k

theorem res3 {fn : Func} {a b c : Tmp} (h : fn.results = #[.tmp a, .tmp b, .tmp c]) (tmps : Array Value) (w : World) : (results fn tmps).run Try.prog w = .ok (.tuple #[tmps.getD a undef, tmps.getD b undef, tmps.getD c undef]) w := by
  simp [results, h, go_sem]
set_option maxRecDepth 4000 in
set_option maxHeartbeats 8000000 in
theorem rplan_any {w : World} {q : Rul} {y : Value} (h : isRul w q y) (hq : OkR q) (hL : Lok q.2) (first : Int) :
    Calls Try.prog 7 #[y, .int .i64 first] w fun e w' => ∃ ov vv, e = .returned (.tuple #[ov, vv, .bool (mayB q.2 first && Ck.refSafe q)]) ∧ Mg w w' q.2 first (mayB q.2 first && Ck.refSafe q) ov vv := by
  have hbd := OkR.bd hq
  have hR := h
  have hszM : ∀ l ∈ q.2, ∀ t ∈ l.2.2, t.2.1.size ≤ maxLen := fun l hl t ht => Ck.okT_le ((hq.body l hl).terms t ht)
  obtain ⟨b2, Hb2⟩ : ∃ b, Hid (Ck.refSafe q = b) := ⟨_, rfl⟩
  have HSN : Hid (b2 = true → ∀ {O : List Nat} {H : List Nm}, Cov q.2 O H → O.length < q.2.length → (∀ a, a < q.2.length → ¬ rdy q.2 H O a) → ∃ a, a < q.2.length ∧ a ∉ O ∧ (litAt q.2 a).1 = 1) := fun e O H hC hlen hr => some_next (by rw [Hb2.out]; exact e) hC hlen hr
  have HSF0 := Ck.rsafe_any (Ck.isRul_bel h ((Below.refl _ w).alloc (Nat.le_refl _) (.cells (match y with | .agg a => a | _ => #[]) 30))) (Ck.okR_few hq)
  rw [Hb2.out] at HSF0 ⊢
  obtain ⟨⟨hk, hnm, ht⟩, ls⟩ := q
  obtain ⟨va, vb, rfl, hva, hvb⟩ := h
  dsimp only at hva hvb hbd hszM hL HSN HSF0 ⊢
  obtain ⟨ao, cap, hbv⟩ := bv_slice hvb
  subst hbv
  have hf6 := hbd.len
  obtain ⟨W1, hW1⟩ : ∃ W1, W1 = w.alloc (.cells #[.int .i64 hk, .string hnm, va, .slice ao ls.length cap] 30) := ⟨_, rfl⟩
  rw [← hW1] at HSF0
  have hb1 : Below w.heap.size w W1 := by rw [hW1]; exact (Below.refl _ w).alloc (Nat.le_refl _) _
  have hx0 : Bx W1 w.heap.size 30 #[.int .i64 hk, .string hnm, va, .slice ao ls.length cap] := by rw [hW1]; exact Bx.new _ _ _
  have c0 := hx0.c 0
  have c1 := hx0.c 1
  have c2 := hx0.c 2
  have c3 := hx0.c 3
  have HSF := hide HSF0
  have HV1 := hide (Sy.isLs_below hvb hb1)
  have HW1 := hide hW1
  have HB1 := hide hb1
  have HX0 := hide hx0
  have HBD := hide hbd
  have HSZ := hide hszM
  have HL := hide hL
  have hlI : (ls.length : Int) ≤ 200 := by omega
  have HNO : Hid (∀ W, Below W1.heap.size W1 W → Mg w W ls first false (.slice none 0 0) (.slice none 0 0)) := fun W hbW =>
    ⟨[], [], ⟨by simp, .inl ⟨rfl, rfl⟩⟩, ⟨by simp [strs], .inl ⟨rfl, rfl⟩⟩, ⟨fun _ => ⟨rfl, rfl⟩, (fun e => by cases e)⟩, hb1.trans (hbW.mono hb1.size)⟩
  obtain ⟨b1, Hb1⟩ : ∃ b, Hid (mayB ls first = b) := ⟨_, rfl⟩
  rw [Hb1.out]
  obtain ⟨b0, Hb0⟩ : ∃ b, Hid (b = (b1 && b2)) := ⟨_, rfl⟩
  rw [← Hb0.out]
  clear hW1 hb1 hva hvb hR hq hx0 hbd hszM hL HSF0 hf6
  go_enter Try.func7, Try.ntmps7
  go_upto_region 1 with fail
  rw [← HW1.out]
  go_cut [42] from 16 to 41 (fun v wc => v = .bool (!b0) ∧ Hid (Below W1.heap.size W1 wc))
  case first =>
    go_wp2_with fail
    refine HSF.out.mono ?_
    rintro e w2 ⟨rfl, hb2⟩
    have HB2 := hide hb2
    have d3 : w2.cell? ⟨w.heap.size, 3, none⟩ = some (.slice ao ls.length cap) := by rw [(HX0.out.below hb2).c 3]; rfl
    have HV2 := hide (Sy.isLs_below HV1.out hb2)
    clear hb2 HSF c0 c1 c2 c3 HNO
    cases b2 with
    | false =>
      have e : b0 = false := by rw [Hb0.out]; simp
      subst e
      go_wp2_with fail
      go_meet
      exact ⟨rfl, HB2⟩
    | true =>
      have e : b0 = b1 := by rw [Hb0.out]; simp
      subst e
      by_cases f1 : first < -1
      · have e : b0 = false := by rw [← Hb1.out]; simp [mayB]; omega
        subst e
        go_wp2_with fail
        go_meet
        exact ⟨rfl, HB2⟩
      · have g1 : decide (first < -1) = false := by simp; omega
        by_cases f2 : (ls.length : Int) ≤ first
        · have e : b0 = false := by rw [← Hb1.out]; simp [mayB]; omega
          subst e
          have g2 : decide ((ls.length : Int) ≤ first) = true := by simp; omega
          clear f1 f2 hlI
          go_wp2_with fail
          go_meet
          exact ⟨rfl, HB2⟩
        · have g2 : decide ((ls.length : Int) ≤ first) = false := by simp; omega
          by_cases f3 : first = -1
          · have e : b0 = true := by rw [← Hb1.out]; simp [mayB, f3]
            subst e
            have g3 : decide ((0 : Int) ≤ first) = false := by simp; omega
            clear f1 f2 f3
            go_wp2_with fail
            go_meet
            exact ⟨rfl, HB2⟩
          · have h0 : 0 ≤ first := by omega
            obtain ⟨p, hp⟩ : ∃ p : Nat, first = (p : Int) := ⟨first.toNat, by omega⟩
            have hpl : p < ls.length := by omega
            obtain ⟨gb, rfl, _⟩ := (Sy.isLs_cells HV2.out).2 (by omega)
            obtain ⟨vp, hLt⟩ := lit_at HV2.out hpl
            have l0 := hLt.l0
            have hb : b0 = decide ((litAt ls p).1 = 1) := by
              rw [← Hb1.out, hp]
              have e1 : ¬ ((p : Int) = -1) := by omega
              have e2 : (p : Int) < (ls.length : Int) := by omega
              simp [mayB, e2]
            have g3 : decide ((0 : Int) ≤ first) = true := by simp; omega
            have hpI : (p : Int) < (ls.length : Int) := by omega
            subst hp
            have g2' : decide (ls.length ≤ p) = false := by simp; omega
            generalize (litAt ls p).1 = lk at *
            clear f1 f2 f3 h0 hLt g2
            by_cases hk1 : lk = 1
            · subst hk1
              have e : b0 = true := by rw [hb]; simp
              subst e
              clear hb
              go_wp2_with fail
              go_meet
              exact ⟨rfl, HB2⟩
            · have e : b0 = false := by rw [hb]; simp [hk1]
              subst e
              have g5 : (lk != 1) = true := by simpa using hk1
              clear hb
              go_wp2_with fail
              go_meet
              exact ⟨rfl, HB2⟩
  case rest =>
    obtain ⟨rfl, HBc⟩ := hcut
    obtain ⟨w2, hw2⟩ : ∃ w2, w2 = wc := ⟨_, rfl⟩
    subst hw2
    have HX2 := hide (HX0.out.below HBc.out)
    have HE := hide (HNO.out _ HBc.out)
    have HV2 := hide (Sy.isLs_below HV1.out HBc.out)
    have hx3 : w2.cell? ⟨w.heap.size, 3, none⟩ = some (.slice ao ls.length cap) := by rw [HX2.out.c 3]; rfl
    have HWB := hide (HB1.out.trans (HBc.out.mono HB1.out.size))
    clear HSF c0 c1 c2 c3 HNO HX0 HV1
    cases b0 with
    | false =>
      go_wp2_with fail
      refine bodyPost_ret (res3 rfl _ _) rfl ?_
      exact ⟨_, _, rfl, HE.out⟩
    | true =>
      have hbb : b1 = true ∧ b2 = true := by have := Hb0.out; simpa using this.symm
      obtain ⟨rfl, rfl⟩ := hbb
      have HF : Hid (-1 ≤ first) := by
        have hm := Hb1.out
        unfold mayB at hm
        show _ ≤ _
        by_cases hf : first = -1
        · omega
        · simp [hf] at hm
          omega
      have hmk := make_used ls.length (by omega)
      obtain ⟨W3, hW3⟩ : ∃ W3, W3 = w2.alloc (.cells (usedR ls.length []) 4) := ⟨_, rfl⟩
      have hb3 : Below w2.heap.size w2 W3 := by rw [hW3]; exact (Below.refl _ w2).alloc (Nat.le_refl _) _
      have HR3 : Hid (Rt w2 W3 ls.length w2.heap.size (.slice none 0 0) (.slice none 0 0) [] [] []) := ⟨⟨by simp, .inl ⟨rfl, rfl⟩⟩, ⟨by simp [strs], .inl ⟨rfl, rfl⟩⟩, by rw [hW3]; exact heap_alloc_new _ _, hb3, (fun k hk => by cases hk), (fun k hk => by cases hk), Nat.le_refl _⟩
      have HW3 := hide hW3
      have HC3 : Hid (∀ W, Below w2.heap.size w2 W → W.cell? ⟨w.heap.size, 3, none⟩ = some (.slice ao ls.length cap)) := fun W hB => cell_bel hx3 hB
      clear hW3 hb3 HE
      go_upto_if 48 with fail
      rw [← HW3.out]
      clear hx3 hmk
      go_cut [7, 8] from 48 to 64 (fun ov hv wd => Hid (∃ O H, Rw w2 wd ls first w2.heap.size ov hv O H))
      case first =>
        by_cases f3 : first = -1
        · have g3 : ¬ ((0 : Int) ≤ first) := by omega
          have HM : Hid (∃ O H, Rw w2 W3 ls first w2.heap.size (.slice none 0 0) (.slice none 0 0) O H) := ⟨[], [], HR3.out, ⟨[], [], ⟨fun _ => ⟨rfl, rfl⟩, fun p hp => by omega⟩, .refl⟩, (fun b hb => by cases hb), by simp, by simp⟩
          clear f3
          go_wp2_with fail
          go_meet
          exact HM
        · obtain ⟨p, hp⟩ : ∃ p : Nat, first = (p : Int) := ⟨first.toNat, by have := HF.out; omega⟩
          have hmb := Hb1.out
          unfold mayB at hmb
          simp [f3] at hmb
          have hpl : p < ls.length := by omega
          have hk1 : (litAt ls p).1 = 1 := by
            have := hmb.2
            rw [hp] at this
            simpa using this
          subst hp
          have g3 : ((0 : Int) ≤ (p : Int)) := by omega
          have hpI : (p : Int) < (ls.length : Int) := by omega
          obtain ⟨gb, rfl, _⟩ := (Sy.isLs_cells HV2.out).2 (by omega)
          obtain ⟨vp, hLt⟩ := lit_at HV2.out hpl
          obtain ⟨g, co, w4, hr, HR4⟩ := HR3.out.push p (by simp)
          have uc := HR4.out.uc hpl
          have uf := HR4.out.uf p
          have HR5 := hide (HR4.out.mark p)
          have hb5 := HR5.out.bel
          have e3 := HC3.out _ hb5
          have l0 := (hb5.cell (p := ⟨gb, p * 3, none⟩) hLt.lt).trans hLt.l0
          have l1 := (hb5.cell (p := ⟨gb, p * 3 + 1, none⟩) hLt.lt).trans hLt.l1
          have l2 := (hb5.cell (p := ⟨gb, p * 3 + 2, none⟩) hLt.lt).trans hLt.l2
          have hmem : litAt ls p ∈ ls := by rw [litAt_get hpl]; exact List.getElem_mem hpl
          have HVR := hide (rvars (O := [p]) HR5.out HBD.out hLt (fold_pick (.inl hk1)) (by simp) (HSZ.out _ hmem))
          have HM : Hid (∀ w7 v', Rt w2 w7 ls.length w2.heap.size (.slice (some ⟨g, 0, none⟩) 1 co) v' [p] [p] (takeH [] (litAt ls p)) → ∃ O H, Rw w2 w7 ls (p : Int) w2.heap.size (.slice (some ⟨g, 0, none⟩) 1 co) v' O H) := fun w7 v' h7 =>
            ⟨[p], _, h7, ⟨[p], _, ⟨(fun e => by omega), fun p' hp' => by have e : p' = p := by omega
                                                                         subst e; exact ⟨rfl, rfl⟩⟩, .refl⟩, Cov.step (O := []) (fun b hb => by cases hb) (HSZ.out _ hmem), by have := takeH_len [] (litAt ls p) (HBD.out.at p); simpa using this, by simp; omega⟩
          obtain ⟨w5, hw5⟩ : ∃ w5, w5 = w4.setCell ⟨w2.heap.size, p, none⟩ (.bool true) := ⟨_, rfl⟩
          rw [← hw5] at e3 l0 l1 l2 HVR
          have HW5 := hide hw5
          simp only [List.length_nil, Nat.zero_add] at hr
          generalize (litAt ls p).1 = lk at *
          generalize (litAt ls p).2.1 = ln at *
          clear hw5 hb5 hLt f3 hmb HR3 HR4 HR5 hk1
          go_upto_region 8 with (at_builtin; refine Lx.wpList_append_run _ rfl (.tmp 49) (.tmp 51) 31 31 rfl _ _ rfl rfl (hr _) ?_)
          go_upto_region 9 with fail
          rw [← HW5.out]
          clear uc uf hr
          go_wp2_with fail
          refine HVR.out.mono ?_
          rintro e w6 ⟨y, rfl, v', w7, hr2, H7⟩
          clear HVR
          go_wp2_with (at_builtin; refine Lx.wpList_append_run _ rfl (.tmp 56) (.tmp 63) 32 32 rfl _ _ rfl rfl (hr2 _) ?_)
          go_meet
          exact HM.out _ _ H7.out
      case rest =>
        clear HR3 HW3 HX2 HW1 HB1 HBc
        go_wp2_with fail
        go_loopw [7, 8] (fun ov hv wr => ∃ O H, Hid (Rw w2 wr ls first w2.heap.size ov hv O H)) (fun ov _ _ => ls.length - Sy.lenOf ov)
        case atStart =>
          obtain ⟨O, H, h⟩ := hcut.out
          exact ⟨O, H, h⟩
        case round =>
          obtain ⟨O, H, HI⟩ := hrel
          clear hcut
          obtain ⟨a1, c1, he⟩ := (Sy.own_len HI.out.1.o).2
          subst he
          have e3 := HC3.out wr HI.out.1.bel
          obtain ⟨W0, hW0⟩ : ∃ W0, W0 = wr := ⟨_, rfl⟩
          subst hW0
          have hOl : O.length ≤ ls.length := HI.out.2.2.2.2
          have hHl : H.length ≤ 900 := by have := HI.out.2.2.2.1; omega
          have hOI : (O.length : Int) ≤ 200 := by omega
          by_cases hlt : O.length < ls.length
          · have hltI : (O.length : Int) < (ls.length : Int) := by omega
            obtain ⟨gb, rfl, hcx⟩ := (Sy.isLs_cells HV2.out).2 (by omega)
            clear hcx
            have HC4 : Hid (∀ W, Below W0.heap.size W0 W → W.cell? ⟨w.heap.size, 3, none⟩ = some (.slice (some ⟨gb, 0, none⟩) ls.length cap)) := fun W hB => cell_bel e3 hB
            go_upto_block 2 with fail
            go_cut [10, 11, 12, 13] from 71 to 106 (fun atv _ _ _ wc => ∃ at' : Int, atv = .int .i64 at' ∧ Hid (Below W0.heap.size W0 wc ∧ ((∃ r, r < ls.length ∧ rdy ls H O r) ∨ ((∀ a, a < ls.length → ¬ rdy ls H O a) ∧ ∃ m, Best ls H O ls.length at' m))))
            case first =>
              go_wp2_with fail
              clear e3
              go_loopw [10, 11, 12] (fun av mv iv wq => ∃ (i : Nat) (at' m : Int), av = .int .i64 at' ∧ mv = .int .i64 m ∧ iv = .int .i64 (i : Int) ∧ i ≤ ls.length ∧ m ≤ 1000 ∧ Hid (Below W0.heap.size W0 wq ∧ (∀ a, a < i → ¬ rdy ls H O a) ∧ Best ls H O i at' m)) (fun _ _ iv _ => ls.length - (intOf iv).toNat)
              case atStart => exact ⟨0, -1, -1, rfl, rfl, rfl, Nat.zero_le _, by omega, Below.refl _ _, fun a ha => absurd ha (Nat.not_lt_zero _), Best.zero _ _ _⟩
              case round =>
                obtain ⟨i, at', m, rfl, rfl, rfl, hi, hm2, HJ⟩ := hrel
                have f3 := HC4.out wr HJ.out.1
                by_cases hil : i < ls.length
                · have hilI : (i : Int) < (ls.length : Int) := by omega
                  obtain ⟨vi, hLt⟩ := lit_at HV2.out hil
                  have hbw : Below w2.heap.size w2 wr := HI.out.1.bel.trans (HJ.out.1.mono HI.out.1.bel.size)
                  have l0 := (hbw.cell (p := ⟨gb, i * 3, none⟩) hLt.lt).trans hLt.l0
                  have l1 := (hbw.cell (p := ⟨gb, i * 3 + 1, none⟩) hLt.lt).trans hLt.l1
                  have l2 := (hbw.cell (p := ⟨gb, i * 3 + 2, none⟩) hLt.lt).trans hLt.l2
                  have uc := (HI.out.1.below HJ.out.1).uc hil
                  have hts := hLt.ts
                  have h4i := HBD.out.at i
                  obtain ⟨LI, HLI⟩ : ∃ L, Hid (litAt ls i = L) := ⟨_, rfl⟩
                  rw [HLI.out] at l0 l1 hts h4i
                  obtain ⟨lk, ln, ts⟩ := LI
                  dsimp only at l0 l1 hts h4i
                  obtain ⟨aot, capt, hvi⟩ := (Sy.own_len hts).2
                  subst hvi
                  have htI : (ts.length : Int) ≤ 4 := by omega
                  obtain ⟨bn, Hbn⟩ : ∃ bn : Nat, Hid (bn = ts.countP (bnR H)) := ⟨_, rfl⟩
                  have hbn4 : (bn : Int) ≤ 4 := by
                    have : bn ≤ ts.length := by rw [Hbn.out]; exact List.countP_le_length
                    omega
                  have HBL : Hid (bN H (litAt ls i) = bn) := by show _ = _; rw [HLI.out, Hbn.out]; rfl
                  have HLK : Hid ((litAt ls i).1 = lk) := by show _ = _; rw [HLI.out]
                  have HLT : Hid ((litAt ls i).2.2.length = ts.length) := by show _ = _; rw [HLI.out]
                  obtain ⟨U, hU⟩ : ∃ U, U = wr.alloc (.cells #[.int .i64 lk, .string ln, .slice aot ts.length capt] 27) := ⟨_, rfl⟩
                  have hbU : Below wr.heap.size wr U := by rw [hU]; exact (Below.refl _ wr).alloc (Nat.le_refl _) _
                  have hnU : U.heap[wr.heap.size]? = some (.cells #[.int .i64 lk, .string ln, .slice aot ts.length capt] 27 (0, 0)) := by rw [hU]; exact heap_alloc_new _ _
                  have y0 : U.cell? ⟨wr.heap.size, 0, none⟩ = some (.int .i64 lk) := by rw [cell_of_row _ _ 0 _ _ _ hnU]; rfl
                  have y1 : U.cell? ⟨wr.heap.size, 1, none⟩ = some (.string ln) := by rw [cell_of_row _ _ 1 _ _ _ hnU]; rfl
                  have y2 : U.cell? ⟨wr.heap.size, 2, none⟩ = some (.slice aot ts.length capt) := by rw [cell_of_row _ _ 2 _ _ _ hnU]; rfl
                  have ucU : U.cell? ⟨w2.heap.size, i, none⟩ = some (.bool (decide (i ∈ O))) := cell_bel uc hbU
                  have HBN : Hid (∀ W, Below U.heap.size U W → Calls Try.prog 19 #[.agg #[.int .i64 lk, .string ln, .slice aot ts.length capt], u8] W fun e w' => e = .returned (.int .i64 (bn : Int)) ∧ (w'.cell? ⟨wr.heap.size, 0, none⟩ = some (.int .i64 lk) ∧ w'.cell? ⟨wr.heap.size, 1, none⟩ = some (.string ln) ∧ w'.cell? ⟨wr.heap.size, 2, none⟩ = some (.slice aot ts.length capt)) ∧ Hid (Below U.heap.size U w')) := fun W hW => by
                    have hb2 : Below w2.heap.size w2 W := hbw.trans ((hbU.trans (hW.mono hbU.size)).mono hbw.size)
                    have hH2 : Hav W u8 H := ((HI.out.1.h.below HJ.out.1).below hbU).below hW
                    refine (bound_any (lk := lk) (ln := ln) (Sy.isTs_below hts hb2) (by omega) hH2 (by omega)).mono ?_
                    rintro e w' ⟨rfl, hb'⟩
                    have hbb := hW.trans (hb'.mono hW.size)
                    exact ⟨by rw [Hbn.out], ⟨cell_bel y0 hbb, cell_bel y1 hbb, cell_bel y2 hbb⟩, hbb⟩
                  have HBU : Hid (∀ W, Below U.heap.size U W → Below W0.heap.size W0 W) := fun W hW => HJ.out.1.trans ((hbU.trans (hW.mono hbU.size)).mono HJ.out.1.size)
                  have HNR : Hid (¬ rdy ls H O i → ∀ a, a < i + 1 → ¬ rdy ls H O a) := fun hn a ha => by
                    by_cases e : a = i
                    · subst e; exact hn
                    · exact HJ.out.2.1 a (by omega)
                  have HBS := hide HJ.out.2.2
                  have HME : Hid (ls.length - (intOf (.int .i64 ((i : Int) + 1))).toNat < ls.length - (intOf (.int .i64 (i : Int))).toNat) := by
                    show _ < _
                    simp [intOf]
                    omega
                  have eU := hide hU
                  clear hU hbU hnU hbw hts hLt HJ
                  by_cases hio : i ∈ O
                  · have hd : decide (i ∈ O) = true := by simpa using hio
                    have HN1 : Hid ((∀ a, a < i + 1 → ¬ rdy ls H O a) ∧ Best ls H O (i + 1) at' m) := ⟨HNR.out (fun h => h.1 hio), HBS.out.skip (fun h => absurd hio h)⟩
                    have HBX := hide (HBU.out U (Below.refl _ _))
                    rw [hd] at uc ucU
                    go_upto_region 16 with fail
                    rw [← eU.out]
                    clear uc l0 l1 l2 y0 y1 y2 f3 hd
                    go_wp2_with fail
                    exact ⟨⟨i + 1, at', m, rfl, rfl, by simp, by omega, hm2, HBX.out, HN1.out⟩, HME.out⟩
                  · have hd : decide (i ∈ O) = false := by simpa using hio
                    rw [hd] at uc ucU
                    go_upto_region 16 with fail
                    rw [← eU.out]
                    go_upto_region 17 with fail
                    clear uc ucU l0 l1 l2 f3 hd
                    by_cases hk1 : lk = 1
                    · subst hk1
                      have HBX := hide (HBN.out U (Below.refl _ _))
                      by_cases hgt : m < (bn : Int)
                      · have HN1 : Hid ((∀ a, a < i + 1 → ¬ rdy ls H O a) ∧ Best ls H O (i + 1) (i : Int) (bn : Int)) := ⟨HNR.out (fun h => h.2.1 HLK.out), by
                          have := HBS.out.take hio HLK.out (by rw [HBL.out]; exact hgt)
                          rw [HBL.out] at this
                          exact this⟩
                        go_wp2_with fail
                        refine HBX.out.mono ?_
                        rintro e w3 ⟨rfl, ⟨z0, z1, z2⟩, HB3⟩
                        have HBY := hide (HBN.out w3 HB3.out)
                        clear HBX y0 y1 y2
                        go_wp2_with fail
                        refine HBY.out.mono ?_
                        rintro e w4 ⟨rfl, _, HB4⟩
                        have HBZ := hide (HBU.out w4 HB4.out)
                        clear HBY z0 z1 z2
                        go_wp2_with fail
                        exact ⟨⟨i + 1, (i : Int), (bn : Int), rfl, rfl, by simp, by omega, by omega, HBZ.out, HN1.out⟩, HME.out⟩
                      · have HN1 : Hid ((∀ a, a < i + 1 → ¬ rdy ls H O a) ∧ Best ls H O (i + 1) at' m) := ⟨HNR.out (fun h => h.2.1 HLK.out), HBS.out.keep hio HLK.out (by rw [HBL.out]; exact hgt)⟩
                        go_wp2_with fail
                        refine HBX.out.mono ?_
                        rintro e w3 ⟨rfl, ⟨z0, z1, z2⟩, HB3⟩
                        have HBZ := hide (HBU.out w3 HB3.out)
                        clear HBX y0 y1 y2 z0 z1 z2
                        go_wp2_with fail
                        exact ⟨⟨i + 1, at', m, rfl, rfl, by simp, by omega, hm2, HBZ.out, HN1.out⟩, HME.out⟩
                    · have g5 : (lk != 1) = true := by simpa using hk1
                      have HBX := hide (HBN.out U.drew (Below.refl _ U).drew)
                      have yd := And.intro y0 (And.intro y1 y2)
                      by_cases hbe : bn = ts.length
                      · have g6 : ((bn : Int) == (ts.length : Int)) = true := by simp; omega
                        have HRD : Hid (∃ r, r < ls.length ∧ rdy ls H O r) := ⟨i, hil, hio, by rw [HLK.out]; exact hk1, by rw [HBL.out, HLT.out]; exact hbe⟩
                        have Hbe := hide hbe
                        clear hbe
                        go_wp2_with fail
                        refine wp_region_noPanic ?_
                        go_region_law (go_simp; go_at_call 19; (with_reducible refine Calls.mono HBX.out ?_); rintro e w3 ⟨rfl, ⟨z0, z1, z2⟩, HB3⟩)
                        all_goals refine NoPanic.normal ?_
                        all_goals have HBZ := hide (HBU.out w3 HB3.out)
                        all_goals clear HBX y0 y1 y2
                        all_goals go_wp2_with fail
                        all_goals go_meet
                        all_goals exact ⟨_, rfl, HBZ.out, .inl HRD.out⟩
                      · have g6 : ((bn : Int) == (ts.length : Int)) = false := by simp; omega
                        have HN1 : Hid ((∀ a, a < i + 1 → ¬ rdy ls H O a) ∧ Best ls H O (i + 1) at' m) := ⟨HNR.out (fun h => hbe (by rw [← HBL.out, ← HLT.out]; exact h.2.2)), HBS.out.skip (fun _ => by rw [HLK.out]; exact hk1)⟩
                        clear hbe
                        go_wp2_with fail
                        refine wp_region_noPanic ?_
                        go_region_law (go_simp; go_at_call 19; (with_reducible refine Calls.mono HBX.out ?_); rintro e w3 ⟨rfl, ⟨z0, z1, z2⟩, HB3⟩)
                        all_goals refine NoPanic.normal ?_
                        all_goals have HBZ := hide (HBU.out w3 HB3.out)
                        all_goals clear HBX y0 y1 y2
                        all_goals go_wp2_with fail
                        all_goals exact ⟨⟨i + 1, at', m, rfl, rfl, by simp, by omega, hm2, HBZ.out, HN1.out⟩, HME.out⟩
                · have hie : i = ls.length := by omega
                  have HN1 : Hid (Below W0.heap.size W0 wr ∧ (∀ a, a < ls.length → ¬ rdy ls H O a) ∧ ∃ m, Best ls H O ls.length at' m) := by
                    have := HJ.out
                    rw [hie] at this
                    exact ⟨this.1, this.2.1, m, this.2.2⟩
                  clear HJ
                  go_wp2_with fail
                  go_meet
                  exact ⟨at', rfl, HN1.out.1, .inr HN1.out.2⟩
            case rest =>
              obtain ⟨at', rfl, HA⟩ := hcut
              have e5 := HC4.out wc HA.out.1
              obtain ⟨W5, hW5⟩ : ∃ W5, W5 = wc := ⟨_, rfl⟩
              subst hW5
              go_upto_block 4 with fail
              go_cut [10, 14, 15] from 107 to 138 (fun atv _ _ wd => ∃ p : Nat, atv = .int .i64 (p : Int) ∧ Hid (Below W0.heap.size W0 wd ∧ Pick ls H O p ∧ ((litAt ls p).1 = 1 ∨ bN H (litAt ls p) = (litAt ls p).2.2.length)))
              case first =>
                go_wp2_with fail
                clear e3 e5
                go_loopw [10, 14] (fun av iv wq => ∃ i : Nat, av = .int .i64 at' ∧ iv = .int .i64 (i : Int) ∧ i ≤ ls.length ∧ Hid (Below W0.heap.size W0 wq ∧ (∀ a, a < i → ¬ rdy ls H O a))) (fun _ iv _ => ls.length - (intOf iv).toNat)
                case atStart => exact ⟨0, rfl, rfl, Nat.zero_le _, HA.out.1, fun a ha => absurd ha (Nat.not_lt_zero _)⟩
                case round =>
                  obtain ⟨i, rfl, rfl, hi, HJ⟩ := hrel
                  have f3 := HC4.out wr HJ.out.1
                  by_cases hil : i < ls.length
                  · have hilI : (i : Int) < (ls.length : Int) := by omega
                    obtain ⟨vi, hLt⟩ := lit_at HV2.out hil
                    have hbw : Below w2.heap.size w2 wr := HI.out.1.bel.trans (HJ.out.1.mono HI.out.1.bel.size)
                    have l0 := (hbw.cell (p := ⟨gb, i * 3, none⟩) hLt.lt).trans hLt.l0
                    have l1 := (hbw.cell (p := ⟨gb, i * 3 + 1, none⟩) hLt.lt).trans hLt.l1
                    have l2 := (hbw.cell (p := ⟨gb, i * 3 + 2, none⟩) hLt.lt).trans hLt.l2
                    have uc := (HI.out.1.below HJ.out.1).uc hil
                    have hts := hLt.ts
                    have h4i := HBD.out.at i
                    obtain ⟨LI, HLI⟩ : ∃ L, Hid (litAt ls i = L) := ⟨_, rfl⟩
                    rw [HLI.out] at l0 l1 hts h4i
                    obtain ⟨lk, ln, ts⟩ := LI
                    dsimp only at l0 l1 hts h4i
                    obtain ⟨aot, capt, hvi⟩ := (Sy.own_len hts).2
                    subst hvi
                    have htI : (ts.length : Int) ≤ 4 := by omega
                    obtain ⟨bn, Hbn⟩ : ∃ bn : Nat, Hid (bn = ts.countP (bnR H)) := ⟨_, rfl⟩
                    have HBL : Hid (bN H (litAt ls i) = bn) := by show _ = _; rw [HLI.out, Hbn.out]; rfl
                    have HLK : Hid ((litAt ls i).1 = lk) := by show _ = _; rw [HLI.out]
                    have HLT : Hid ((litAt ls i).2.2.length = ts.length) := by show _ = _; rw [HLI.out]
                    obtain ⟨U, hU⟩ : ∃ U, U = wr.alloc (.cells #[.int .i64 lk, .string ln, .slice aot ts.length capt] 27) := ⟨_, rfl⟩
                    have hbU : Below wr.heap.size wr U := by rw [hU]; exact (Below.refl _ wr).alloc (Nat.le_refl _) _
                    have hnU : U.heap[wr.heap.size]? = some (.cells #[.int .i64 lk, .string ln, .slice aot ts.length capt] 27 (0, 0)) := by rw [hU]; exact heap_alloc_new _ _
                    have y0 : U.cell? ⟨wr.heap.size, 0, none⟩ = some (.int .i64 lk) := by rw [cell_of_row _ _ 0 _ _ _ hnU]; rfl
                    have y1 : U.cell? ⟨wr.heap.size, 1, none⟩ = some (.string ln) := by rw [cell_of_row _ _ 1 _ _ _ hnU]; rfl
                    have y2 : U.cell? ⟨wr.heap.size, 2, none⟩ = some (.slice aot ts.length capt) := by rw [cell_of_row _ _ 2 _ _ _ hnU]; rfl
                    have ucU : U.cell? ⟨w2.heap.size, i, none⟩ = some (.bool (decide (i ∈ O))) := cell_bel uc hbU
                    have HBN : Hid (Calls Try.prog 19 #[.agg #[.int .i64 lk, .string ln, .slice aot ts.length capt], u8] U.drew fun e w' => e = .returned (.int .i64 (bn : Int)) ∧ (w'.cell? ⟨wr.heap.size, 0, none⟩ = some (.int .i64 lk) ∧ w'.cell? ⟨wr.heap.size, 1, none⟩ = some (.string ln) ∧ w'.cell? ⟨wr.heap.size, 2, none⟩ = some (.slice aot ts.length capt)) ∧ Hid (Below W0.heap.size W0 w')) := by
                      have hW : Below U.heap.size U U.drew := (Below.refl _ U).drew
                      have hb2 : Below w2.heap.size w2 U.drew := hbw.trans ((hbU.trans (hW.mono hbU.size)).mono hbw.size)
                      have hH2 : Hav U.drew u8 H := ((HI.out.1.h.below HJ.out.1).below hbU).below hW
                      refine (bound_any (lk := lk) (ln := ln) (Sy.isTs_below hts hb2) (by omega) hH2 (by omega)).mono ?_
                      rintro e w' ⟨rfl, hb'⟩
                      have hbb := hW.trans (hb'.mono hW.size)
                      exact ⟨by rw [Hbn.out], ⟨cell_bel y0 hbb, cell_bel y1 hbb, cell_bel y2 hbb⟩, HJ.out.1.trans ((hbU.trans (hbb.mono hbU.size)).mono HJ.out.1.size)⟩
                    have HBU : Hid (∀ nq, Below W0.heap.size W0 (U.drewN nq)) := fun nq => HJ.out.1.trans (((hbU.trans ((show Below U.heap.size U (U.drewN nq) from ⟨rfl, rfl, rfl, Nat.le_refl _, fun _ _ => rfl⟩).mono hbU.size))).mono HJ.out.1.size)
                    have HNR : Hid (¬ rdy ls H O i → ∀ a, a < i + 1 → ¬ rdy ls H O a) := fun hn a ha => by
                      by_cases e : a = i
                      · subst e; exact hn
                      · exact HJ.out.2 a (by omega)
                    have HNB := hide HJ.out.2
                    have HME : Hid (ls.length - (intOf (.int .i64 ((i : Int) + 1))).toNat < ls.length - (intOf (.int .i64 (i : Int))).toNat) := by
                      show _ < _
                      simp [intOf]
                      omega
                    have eU := hide hU
                    clear hU hbU hnU hbw hts hLt HJ
                    go_upto_region 26 with fail
                    rw [← eU.out]
                    clear uc l0 l1 l2 f3
                    by_cases hio : i ∈ O
                    · have hd : decide (i ∈ O) = true := by simpa using hio
                      rw [hd] at ucU
                      have HN1 := hide (HNR.out (fun h => h.1 hio))
                      clear hd HBN
                      go_big_quiet (fail)
                      go_wp2_with fail
                      exact ⟨⟨i + 1, rfl, by simp, by omega, HBU.out _, HN1.out⟩, HME.out⟩
                    · have hd : decide (i ∈ O) = false := by simpa using hio
                      rw [hd] at ucU
                      clear hd
                      by_cases hk1 : lk = 1
                      · subst hk1
                        have HN1 := hide (HNR.out (fun h => h.2.1 HLK.out))
                        clear HBN
                        go_big_quiet (fail)
                        go_wp2_with fail
                        exact ⟨⟨i + 1, rfl, by simp, by omega, HBU.out _, HN1.out⟩, HME.out⟩
                      · have g5 : (lk != 1) = true := by simpa using hk1
                        by_cases hbe : bn = ts.length
                        · have g6 : ((bn : Int) == (ts.length : Int)) = true := by simp; omega
                          have HPK : Hid (Pick ls H O i ∧ ((litAt ls i).1 = 1 ∨ bN H (litAt ls i) = (litAt ls i).2.2.length)) := by
                            have hr : rdy ls H O i := ⟨hio, by rw [HLK.out]; exact hk1, by rw [HBL.out, HLT.out]; exact hbe⟩
                            exact ⟨pick_ready HL.out hil hr HNB.out, .inr hr.2.2⟩
                          have Hbe := hide hbe
                          clear hbe
                          refine wp_region_noPanic ?_
                          go_region_law (go_simp; go_at_call 19; (with_reducible refine Calls.mono HBN.out ?_); rintro e w3 ⟨rfl, ⟨z0, z1, z2⟩, HB3⟩)
                          all_goals refine NoPanic.normal ?_
                          all_goals clear HBN y0 y1 y2
                          all_goals go_wp2_with fail
                          all_goals go_meet
                          all_goals exact ⟨i, rfl, HB3.out, HPK.out⟩
                        · have g6 : ((bn : Int) == (ts.length : Int)) = false := by simp; omega
                          have HN1 := hide (HNR.out (fun h => hbe (by rw [← HBL.out, ← HLT.out]; exact h.2.2)))
                          clear hbe
                          refine wp_region_noPanic ?_
                          go_region_law (go_simp; go_at_call 19; (with_reducible refine Calls.mono HBN.out ?_); rintro e w3 ⟨rfl, ⟨z0, z1, z2⟩, HB3⟩)
                          all_goals refine NoPanic.normal ?_
                          all_goals clear HBN y0 y1 y2
                          all_goals go_wp2_with fail
                          all_goals exact ⟨⟨i + 1, rfl, by simp, by omega, HB3.out, HN1.out⟩, HME.out⟩
                  · have hie : i = ls.length := by omega
                    have HPK : Hid (∃ p : Nat, at' = (p : Int) ∧ Below W0.heap.size W0 wr ∧ Pick ls H O p ∧ ((litAt ls p).1 = 1 ∨ bN H (litAt ls p) = (litAt ls p).2.2.length)) := by
                      have hno : ∀ a, a < ls.length → ¬ rdy ls H O a := by rw [← hie]; exact HJ.out.2
                      rcases HA.out.2 with ⟨r, hr1, hr2⟩ | ⟨_, m, hB⟩
                      · exact absurd hr2 (hno r hr1)
                      · obtain ⟨a, ha1, ha2, ha3⟩ := HSN.out (by first | trivial | rfl) HI.out.2.2.1 hlt hno
                        have hB' := hB
                        rcases hB with ⟨_, _, h3⟩ | ⟨p, h1, h2, h3, h4, h5, h6⟩
                        · exact absurd ha3 (h3 a ha1 ha2)
                        · rw [h1] at hB'
                          exact ⟨p, h1, HJ.out.1, pick_best HL.out hB' hno, .inl h4⟩
                    obtain ⟨p, Hpe, HPK2⟩ := HPK.out
                    have HP3 := hide HPK2
                    subst Hpe
                    clear HJ HPK HPK2
                    go_wp2_with fail
                    go_meet
                    exact ⟨p, rfl, HP3.out⟩
              case rest =>
                obtain ⟨p, rfl, HP⟩ := hcut
                clear e5
                have HR6 := hide (HI.out.1.below HP.out.1)
                have hpl : p < ls.length := HP.out.2.1.lt
                have hpI : (p : Int) < (ls.length : Int) := by omega
                obtain ⟨vp, hLt⟩ := lit_at HV2.out hpl
                obtain ⟨g, co, w7, hr, HR7⟩ := HR6.out.push p (by omega)
                have uc := HR7.out.uc hpl
                have uf := HR7.out.uf p
                have HR8 := hide (HR7.out.mark p)
                have hb8 := HR8.out.bel
                have e8 := HC3.out _ hb8
                have l0 := (hb8.cell (p := ⟨gb, p * 3, none⟩) hLt.lt).trans hLt.l0
                have l1 := (hb8.cell (p := ⟨gb, p * 3 + 1, none⟩) hLt.lt).trans hLt.l1
                have l2 := (hb8.cell (p := ⟨gb, p * 3 + 2, none⟩) hLt.lt).trans hLt.l2
                have hmem : litAt ls p ∈ ls := by rw [litAt_get hpl]; exact List.getElem_mem hpl
                have HVR := hide (rvars (O := O ++ [p]) HR8.out HBD.out hLt (fold_pick HP.out.2.2) hHl (HSZ.out _ hmem))
                obtain ⟨M, HM1⟩ : ∃ M, Hid (M = O.length + 1) := ⟨_, rfl⟩
                have HM : Hid (∀ w9 v', Rt w2 w9 ls.length w2.heap.size (.slice (some ⟨g, 0, none⟩) M co) v' (O ++ [p]) (O ++ [p]) (takeH H (litAt ls p)) → Rw w2 w9 ls first w2.heap.size (.slice (some ⟨g, 0, none⟩) M co) v' (O ++ [p]) (takeH H (litAt ls p))) := fun w9 v' h9 => by
                  obtain ⟨_, ⟨O0, H0, hb0, ht0⟩, h3, h4, h5⟩ := HI.out
                  refine ⟨h9, ⟨O0, H0, hb0, ht0.step HP.out.2.1⟩, h3.step (HSZ.out _ hmem), ?_, by simp; omega⟩
                  have := takeH_len H (litAt ls p) (HBD.out.at p)
                  simp
                  omega
                have HMS : Hid (ls.length - Sy.lenOf (.slice (some ⟨g, 0, none⟩) M co) < ls.length - Sy.lenOf (.slice a1 O.length c1)) := by
                  show ls.length - M < ls.length - O.length
                  rw [HM1.out]
                  omega
                obtain ⟨w8, hw8⟩ : ∃ w8, w8 = w7.setCell ⟨w2.heap.size, p, none⟩ (.bool true) := ⟨_, rfl⟩
                rw [← HM1.out] at hr HVR
                rw [← hw8] at e8 l0 l1 l2 HVR
                have HW8 := hide hw8
                generalize (litAt ls p).1 = lk at *
                generalize (litAt ls p).2.1 = ln at *
                clear hw8 hb8 hLt HR7 HR8 HA e3
                go_upto_region 29 with (at_builtin; refine Lx.wpList_append_run _ rfl (.tmp 139) (.tmp 141) 31 31 rfl _ _ rfl rfl (hr _) ?_)
                go_upto_region 30 with fail
                rw [← HW8.out]
                clear uc uf hr
                go_wp2_with fail
                refine HVR.out.mono ?_
                rintro e w9 ⟨y, rfl, v', w10, hr2, H10⟩
                clear HVR
                go_wp2_with (at_builtin; refine Lx.wpList_append_run _ rfl (.tmp 146) (.tmp 153) 32 32 rfl _ _ rfl rfl (hr2 _) ?_)
                exact ⟨⟨O ++ [p], _, HM.out _ _ H10.out⟩, HMS.out⟩
          · have HE : Hid (Mg w W0 ls first true (.slice a1 O.length c1) u8) := by
              obtain ⟨h1, ⟨O0, H0, hb0, ht0⟩, _, _, h5⟩ := HI.out
              exact ⟨O, H, h1.o, h1.h, ⟨(fun e => by cases e), fun _ => ⟨HF.out, O0, H0, hb0, ht0, by omega⟩⟩, HWB.out.trans (h1.bel.mono HWB.out.size)⟩
            clear HI
            go_wp2_with fail
            refine bodyPost_ret (res3 rfl _ _) rfl ?_
            exact ⟨_, _, rfl, HE.out⟩
end Go.Proofs.Ytjejpjpdfdcnlaa.Qu
